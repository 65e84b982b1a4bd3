/-
  A range over a function whose yielded values lie in memory of the iterator's own: the contract of such an iterator, and the law for its caller.
  The iterator 'saw': all sawings that begin with some bars, one after the other, in one block of memory.
  The iterator 'saw': its contract.
  The iterators 'sawings' and 'truths' hand back a value that keeps the contract of an iterator.
  Many: the number of truths.
  Rest: the least and the greatest rest of a bar.
  Walks: numbers (the places at which an array of bools is true), and the library's Clone of a list of ints.
  Of: the bars of which a piece can be.
  Plan and Least: a truth with the fewest bars.
  known, Room and Alike: what is so in each truth, in none, or in some.
  Room: whether one more piece of a length could be cut from some bar.
-/
import Derived.Test.YtgjikoebneiamaaTBase
import Derived.RangeFuncNested
import Derived.RangeFuncBound
import Derived.RangeFuncCalls
import Derived.RangeFuncLeaves
import Derived.Shelf.Abstract
import Derived.Shelf.RegionOpen
import Derived.OwnWalkIn
import Derived.TacticsInMore
import Derived.LoopNIn
import Derived.LoopIn
import Derived.Laws.IdiomCopy
import Derived.OwnWalk
import Derived.Lib.SliceRun

namespace Go.Proofs.Ytgjikoebneiamaa.Tb
open Go.RowKit

/-- Whatever lay, but for the blocks own, lies as it lay. -/
structure KeptBut (own : Nat → Prop) (W W' : World) : Prop where
  os : W'.os = W.os
  tape : W'.tape = W.tape
  output : W'.output = W.output
  size : W.heap.size ≤ W'.heap.size
  block : ∀ k, k < W.heap.size → ¬ own k → W'.heap[k]? = W.heap[k]?

theorem KeptBut.refl (own : Nat → Prop) (W : World) : KeptBut own W W := ⟨rfl, rfl, rfl, Nat.le_refl _, fun _ _ _ => rfl⟩
theorem KeptBut.trans {own : Nat → Prop} {A B C : World} (h : KeptBut own A B) (k : KeptBut own B C) : KeptBut own A C :=
  ⟨k.os.trans h.os, k.tape.trans h.tape, k.output.trans h.output, Nat.le_trans h.size k.size, fun i hi ho => (k.block i (Nat.lt_of_lt_of_le hi h.size) ho).trans (h.block i hi ho)⟩
theorem KeptBut.mono {own own' : Nat → Prop} {A B : World} (h : KeptBut own A B) (hs : ∀ k, k < A.heap.size → own k → own' k) : KeptBut own' A B :=
  ⟨h.os, h.tape, h.output, h.size, fun k hk ho => h.block k hk (fun h => ho (hs k hk h))⟩
theorem KeptBut.of_below {own : Nat → Prop} {A B : World} (h : Below A.heap.size A B) : KeptBut own A B := ⟨h.os, h.tape, h.output, h.size, fun k hk _ => h.block k hk⟩
theorem KeptBut.setCell {own : Nat → Prop} (W : World) (a : Addr) (v : Value) (h : own a.block) : KeptBut own W (W.setCell a v) :=
  ⟨rfl, rfl, rfl, by simp [World.setCell], fun k hk ho => Below.heap_setCell _ _ _ _ (fun e => ho (e ▸ h))⟩
theorem KeptBut.putObj {own : Nat → Prop} (W : World) (l : Nat) (o : Obj) (h : own l) : KeptBut own W (W.putObj l o) :=
  ⟨rfl, rfl, rfl, by simp, fun k hk ho => World.putObj_heap_other (fun e => ho (e ▸ h))⟩
theorem KeptBut.grown {own : Nat → Prop} {W W' : World} {row : Option Nat} (h : W.grownBy W' row) (hr : ∀ r, row = some r → own r) : KeptBut own W W' :=
  ⟨h.os, h.tape, h.output, h.size, fun k hk ho => h.block k hk (fun e => ho (hr k e.symm))⟩
theorem KeptBut.below {own : Nat → Prop} {B : Nat} {W W' : World} (h : KeptBut own W W') (hB : B ≤ W.heap.size) (ho : ∀ k, own k → B ≤ k) : Below B W W' :=
  ⟨h.os, h.tape, h.output, h.size, fun k hk => h.block k (by omega) (fun h => by have := ho k h; omega)⟩

/-- The contract of an iterator that hands over values in its block 'the heap's size at the call, and c more'. -/
def SeqY {α : Type} (F : Fence) (n : Nat) (P : Program) (g : Nat) (lb : Array Value) (c : Nat) (enc : Nat → α → Value) (At : Nat → α → World → Prop) (xs : List α) (ok : Nat → Prop) (w0 : World) : Prop :=
  ∀ (l : Nat) (own : Nat → Prop) (J Jx : List α → World → Prop) (W : World), Below w0.heap.size w0 W →
    (∀ k, own k → k < W.heap.size ∧ ¬ ok k) →
    (∀ s A B, J s A → A.grownBy B (some (W.heap.size + c)) → J s B) → (∀ s A B, Jx s A → A.grownBy B (some (W.heap.size + c)) → Jx s B) →
    (∀ pre x W1, pre ++ [x] <+: xs → J pre W1 → W.heap.size + c < W1.heap.size → At (W.heap.size + c) x W1 →
      YieldAt F (n - 1) P l #[enc (W.heap.size + c) x] W1 fun e W' =>
        (e = .returned (.bool true) ∧ J (pre ++ [x]) W' ∧ KeptBut own W1 W') ∨ (e = .returned (.bool false) ∧ Jx (pre ++ [x]) W' ∧ KeptBut own W1 W')) →
    J [] W →
    CallsIn F n P g (#[.func (.yield l) #[] #[]] ++ lb) W fun e W' => (∃ v, e = .returned v) ∧ KeptBut own W W' ∧ (J xs W' ∨ ∃ pre, pre <+: xs ∧ Jx pre W')

/-- How the body of a round may be left. -/
def postY {α : Type} (own : Nat → Prop) (I : List α → World → Prop) (Ix : Code → List α → World → Prop) (xs : List α) (W : World) : Exit → Act → World → Prop
  | .normal, _, W' => KeptBut own W W' ∧ I xs W'
  | .ret, _, W' => KeptBut own W W' ∧ Ix .ret xs W'
  | .exit id, _, W' => KeptBut own W W' ∧ Ix (.exit id) xs W'
  | .goto t, _, W' => KeptBut own W W' ∧ Ix (.goto t) xs W'
  | .panic _, _, _ => False
  | .outgrown, _, _ => False

/-- The caller's invariant abides what the loop and the iterator do to blocks of their own. -/
def OwnAt {β : Type} (B c : Nat) (I : β → World → Prop) : Prop :=
  ∀ s A A' row, I s A → A.grownBy A' row → (∀ r, row = some r → r = B ∨ r = B + 1 ∨ r = B + 2 + c) → I s A'
theorem OwnAt.putObj {β : Type} {B c : Nat} {I : β → World → Prop} (h : OwnAt B c I) {s : β} {W : World} {l : Nat} (o' : Obj) (hs : I s W) (hl : l = B ∨ l = B + 1) : I s (W.putObj l o') :=
  h s W _ (some l) hs (grownBy_putObj' W l o') (fun r e => by cases e; omega)
theorem OwnAt.alloc {β : Type} {B c : Nat} {I : β → World → Prop} (h : OwnAt B c I) {s : β} {W : World} (o : Obj) (hs : I s W) : I s (W.alloc o) :=
  h s W _ none hs (World.grownBy_alloc W o none) (fun r e => by cases e)

variable {F : Fence} {n : Nat} {P : Program}

theorem wpIn_rangeFunc_Y {α : Type} {g : Operand} {ps : Array Tmp} {assign body : Code} {Q : Exit → Act → World → Prop} {a : Act} {w : World}
    (hro : F.round = none) (h1 : 1 ≤ n) {gf : Nat} {lb : Array Value} (hg : a.eval g = .func (.func gf) #[] lb) (hFg : F.fn gf) (eg : ∀ args w, (callFunc gf args).run P w = .ok (.enter gf args) w)
    {c : Nat} {enc : Nat → α → Value} {At : Nat → α → World → Prop} {xs : List α} {ok : Nat → Prop} {w0 : World} (hseq : SeqY F (n - 1) P gf lb c enc At xs ok w0)
    (hb0 : Below w0.heap.size w0 w) (hps : ps.size = 1)
    (own : Nat → Prop) (hown : ∀ k, own k → k < w.heap.size ∧ ¬ ok k) (hok : ∀ k, ok k → k < w.heap.size)
    (hAt : ∀ x A B, At (w.heap.size + 2 + c) x A → A.grownBy B (some (w.heap.size + 1)) → At (w.heap.size + 2 + c) x B)
    (I : List α → World → Prop) (Ix : Code → List α → World → Prop) (hI : OwnAt w.heap.size c I) (hIx : ∀ d, OwnAt w.heap.size c (Ix d)) (h0 : I [] w) (a₁ : α → Act)
    (hassign : ∀ (l : Nat) (x : α) (W : World) (K : Act → World → Prop), K (a₁ x) W →
      assign.wpIn (F.inRound l) (n - 1 - 1) P (Exit.then K (fun _ _ _ => False)) { tmps := (ps.zip #[enc (w.heap.size + 2 + c) x]).foldl (fun t (p, v) => t.setIfInBounds p v) a.tmps, defers := [] } W)
    (hbody : ∀ (l : Nat) (pre : List α) (x : α) (W : World), pre ++ [x] <+: xs → I pre W → KeptBut own w W → w.heap.size + 2 + c < W.heap.size → At (w.heap.size + 2 + c) x W →
      body.wpIn (F.inRound l) (n - 1 - 1) P (postY own I Ix (pre ++ [x]) W) (a₁ x) W)
    (hdone : ∀ (D : Nat) (W : World), w.heap.size ≤ D → KeptBut own w W → I xs W → W.heap[D]? = some (.deferred (some [])) → Q .normal { a with defers := { target := .collected D, args := #[] } :: a.defers } W)
    (hstop : ∀ (D : Nat) (d : Code) (pre : List α) (W : World), w.heap.size ≤ D → KeptBut own w W → pre <+: xs → Ix d pre W → W.heap[D]? = some (.deferred (some [])) → d.wpIn F n P Q { a with defers := { target := .collected D, args := #[] } :: a.defers } W) :
    (Code.rangeFunc g ps assign body).wpIn F n P Q a w := by
  refine wpIn_rangeFunc ?_
  intro fn hfn
  rw [hro]
  obtain ⟨rec, hrec⟩ : ∃ rec : LoopState → Option Code → Loop, rec = fun st pe => { state := st, pending := pe, fn, tmps := a.tmps, params := ps, assign, body, defers := w.heap.size } := ⟨_, rfl⟩
  obtain ⟨W1, hW1⟩ : ∃ W1, (w.alloc (.deferred (some []))).alloc (.loop (rec .ready none)) = W1 := ⟨_, rfl⟩
  have hL1 : W1.heap[w.heap.size + 1]? = some (.loop (rec .ready none)) := by
    rw [← hW1]; have := World.alloc_heap_new (w.alloc (.deferred (some []))) (.loop (rec .ready none)); rwa [World.size_alloc] at this
  have hK1 : W1.heap[w.heap.size]? = some (.deferred (some [])) := by
    rw [← hW1]; exact (Below.heap_alloc _ _ _ (by simp)).trans (World.alloc_heap_new w _)
  have hsz1 : W1.heap.size = w.heap.size + 2 := by rw [← hW1]; simp
  have hI1 : I [] W1 := by rw [← hW1]; exact hI.alloc _ (hI.alloc _ h0)
  have hbw : Below w.heap.size w W1 := by rw [← hW1]; exact ((Below.refl _ w).alloc (Nat.le_refl _) _).alloc (by simp) _
  have hb1 : Below w0.heap.size w0 W1 := hb0.trans (hbw.mono hb0.size)
  refine ⟨w.heap.size + 1, [{ target := .collected w.heap.size, args := #[] }], W1, { target := .fn (.func gf) lb, args := #[.func (.yield (w.heap.size + 1)) #[] #[]] }, W1, gf,
    #[.func (.yield (w.heap.size + 1)) #[] #[]] ++ lb, W1, ?_, ?_, ?_, ?_, fun _ => h1, ?_⟩
  · rw [← hW1, hrec]; exact run_enterLoop_outer _ _ _ _ _
  · simp only [resolve, hg]
    simp [go_sem]
  · intro f' hf'; simp [Target.leads] at hf'; subst hf'; exact hFg
  · simp [invoke, go_sem, eg]
  · -- the iterator's contract, at the caller's invariant with the book-keeping beside it
    have hkw : ∀ {A B : World} {k : Nat} {o : Obj}, A.grownBy B (some (W1.heap.size + c)) → k < w.heap.size + 2 → A.heap[k]? = some o → B.heap[k]? = some o := fun hg' hk ho =>
      (hg'.block _ (Array.getElem?_eq_some_iff.1 ho).1 (fun e => by simp only [Option.some.injEq] at e; omega)).trans ho
    have hkept : ∀ {W : World}, KeptBut (fun k => own k ∨ k = w.heap.size + 1) W1 W → KeptBut own w W := fun h =>
      ⟨h.os.trans hbw.os, h.tape.trans hbw.tape, h.output.trans hbw.output, Nat.le_trans hbw.size h.size, fun k hk ho =>
        (h.block k (by omega) (by rintro (h | h); exact ho h; omega)).trans (hbw.block k hk)⟩
    have hkg : ∀ {A B : World}, KeptBut (fun k => own k ∨ k = w.heap.size + 1) W1 A → A.grownBy B (some (W1.heap.size + c)) → KeptBut (fun k => own k ∨ k = w.heap.size + 1) W1 B := fun h hg' =>
      ⟨hg'.os.trans h.os, hg'.tape.trans h.tape, hg'.output.trans h.output, Nat.le_trans h.size hg'.size, fun k hk ho =>
        (hg'.block k (Nat.lt_of_lt_of_le hk h.size) (fun e => by simp only [Option.some.injEq] at e; omega)).trans (h.block k hk ho)⟩
    have hrow : ∀ r, some (W1.heap.size + c) = some r → r = w.heap.size ∨ r = w.heap.size + 1 ∨ r = w.heap.size + 2 + c := fun r e => by simp only [Option.some.injEq] at e; omega
    have hBk : W1.heap.size + c = w.heap.size + 2 + c := by omega
    refine (hseq (w.heap.size + 1) (fun k => own k ∨ k = w.heap.size + 1)
      (fun pre W => I pre W ∧ W.heap[w.heap.size + 1]? = some (.loop (rec .ready none)) ∧ W.heap[w.heap.size]? = some (.deferred (some [])) ∧ KeptBut (fun k => own k ∨ k = w.heap.size + 1) W1 W)
      (fun pre W => ∃ d, Ix d pre W ∧ W.heap[w.heap.size + 1]? = some (.loop (rec .done (some d))) ∧ W.heap[w.heap.size]? = some (.deferred (some [])) ∧ KeptBut (fun k => own k ∨ k = w.heap.size + 1) W1 W)
      W1 hb1
      (fun k hk => by
        rcases hk with h | h
        · exact ⟨by have := (hown k h).1; omega, (hown k h).2⟩
        · exact ⟨by omega, fun h' => by have := hok k h'; omega⟩)
      (fun s A B hs hg' => ⟨hI s A B _ hs.1 hg' hrow, hkw hg' (by omega) hs.2.1, hkw hg' (by omega) hs.2.2.1, hkg hs.2.2.2 hg'⟩)
      (fun s A B hs hg' => by
        obtain ⟨d, hd, hl, hk, hkb⟩ := hs
        exact ⟨d, hIx d s A B _ hd hg' hrow, hkw hg' (by omega) hl, hkw hg' (by omega) hk, hkg hkb hg'⟩)
      ?_ ⟨hI1, hL1, hK1, KeptBut.refl _ _⟩).mono ?_
    · -- one round
      rintro pre x W hpre ⟨hi, hl, hk, hkb⟩ hlenW hat
      rw [hBk] at hlenW hat
      rw [hBk]
      have hlt : w.heap.size + 1 < W.heap.size := (Array.getElem?_eq_some_iff.1 hl).1
      have hy := run_yield (P := P) (args := #[enc (w.heap.size + 2 + c) x]) hl (by rw [hrec]; simp [hps])
      rw [hrec] at hy
      refine ⟨fn, _, assign, body, hy, roundIn_of_wpIn hfn (hassign _ x W _ ⟨_, run_beginRound hl (by rw [hrec]), ?_⟩)⟩
      obtain ⟨W2, hW2⟩ : ∃ W2, W.putObj (w.heap.size + 1) (.loop { rec .ready none with state := .busy }) = W2 := ⟨_, rfl⟩
      have hl2 : W2.heap[w.heap.size + 1]? = some (.loop { rec .ready none with state := .busy }) := hW2 ▸ World.putObj_heap_same hlt
      have hk2 : W2.heap[w.heap.size]? = some (.deferred (some [])) := hW2 ▸ (World.putObj_heap_other (by omega)).trans hk
      have hkp2 : KeptBut (fun k => own k ∨ k = w.heap.size + 1) W W2 := hW2 ▸ KeptBut.putObj _ _ _ (.inr rfl)
      have hi2 : I pre W2 := hW2 ▸ hI.putObj _ hi (.inr rfl)
      have hat2 : At (w.heap.size + 2 + c) x W2 := hAt x W W2 hat (hW2 ▸ grownBy_putObj' _ _ _)
      rw [hW2]
      refine wpIn_mono (hbody _ pre x W2 hpre hi2 (hkept (hkb.trans hkp2)) (Nat.lt_of_lt_of_le hlenW hkp2.size) hat2) ?_
      have hlt2 : w.heap.size + 1 < W2.heap.size := (Array.getElem?_eq_some_iff.1 hl2).1
      have fin : ∀ (jump : Option Code) (W3 : World), KeptBut own W2 W3 →
          (Instr.endRound (w.heap.size + 1) jump).run P W3 = .ok (.bool jump.isNone) (W3.putObj (w.heap.size + 1) (.loop (rec (if jump.isNone then .ready else .done) jump))) ∧
          (W3.putObj (w.heap.size + 1) (.loop (rec (if jump.isNone then .ready else .done) jump))).heap[w.heap.size + 1]? = some (.loop (rec (if jump.isNone then .ready else .done) jump)) ∧
          (W3.putObj (w.heap.size + 1) (.loop (rec (if jump.isNone then .ready else .done) jump))).heap[w.heap.size]? = some (.deferred (some [])) ∧
          KeptBut (fun k => own k ∨ k = w.heap.size + 1) W (W3.putObj (w.heap.size + 1) (.loop (rec (if jump.isNone then .ready else .done) jump))) := fun jump W3 hk3 => by
        have hl3 := (hk3.block (w.heap.size + 1) hlt2 (fun h => by have := (hown _ h).1; omega)).trans hl2
        have hkk3 := (hk3.block (w.heap.size) (by omega) (fun h => by have := (hown _ h).1; omega)).trans hk2
        have := run_endRound (P := P) jump hl3
        rw [hrec] at this ⊢
        exact ⟨this, World.putObj_heap_same (Array.getElem?_eq_some_iff.1 hl3).1, (World.putObj_heap_other (by omega)).trans hkk3,
          (hkp2.trans (hk3.mono (fun k _ h => .inl h))).trans (KeptBut.putObj _ _ _ (.inr rfl))⟩
      rintro e a3 W3 hp
      cases e with
      | normal =>
        obtain ⟨hk3, hi3⟩ := hp
        obtain ⟨hr, hl4, hk4, hkp4⟩ := fin none W3 hk3
        exact ⟨_, _, hr, .inl ⟨rfl, ⟨hI.putObj _ hi3 (.inr rfl), hl4, hk4, hkb.trans (hkp4.mono (fun k _ h => h))⟩, hkp4⟩⟩
      | ret =>
        obtain ⟨hk3, hi3⟩ := hp
        obtain ⟨hr, hl4, hk4, hkp4⟩ := fin (some .ret) W3 hk3
        exact ⟨_, _, hr, .inr ⟨rfl, ⟨.ret, (hIx _).putObj _ hi3 (.inr rfl), hl4, hk4, hkb.trans hkp4⟩, hkp4⟩⟩
      | exit id =>
        obtain ⟨hk3, hi3⟩ := hp
        obtain ⟨hr, hl4, hk4, hkp4⟩ := fin (some (.exit id)) W3 hk3
        exact ⟨_, _, hr, .inr ⟨rfl, ⟨.exit id, (hIx _).putObj _ hi3 (.inr rfl), hl4, hk4, hkb.trans hkp4⟩, hkp4⟩⟩
      | goto t =>
        obtain ⟨hk3, hi3⟩ := hp
        obtain ⟨hr, hl4, hk4, hkp4⟩ := fin (some (.goto t)) W3 hk3
        exact ⟨_, _, hr, .inr ⟨rfl, ⟨.goto t, (hIx _).putObj _ hi3 (.inr rfl), hl4, hk4, hkb.trans hkp4⟩, hkp4⟩⟩
      | panic ch => exact hp.elim
      | outgrown => exact hp.elim
    · -- behind the iterator
      rintro e W2 ⟨⟨v, rfl⟩, _, (⟨hi, hl, hk, hkb⟩ | ⟨pre, hSp, d, hi, hl, hk, hkb⟩)⟩
      · exact ⟨none, _, by have := run_endLoop (P := P) hl (by rw [hrec]; simp); rw [hrec] at this; exact this,
          hdone _ _ (Nat.le_refl _) (hkept (hkb.trans (KeptBut.putObj _ _ _ (.inr rfl)))) (hI.putObj _ hi (.inr rfl)) ((World.putObj_heap_other (by omega)).trans hk)⟩
      · exact ⟨some d, _, by have := run_endLoop (P := P) hl (by rw [hrec]; simp); rw [hrec] at this; exact this,
          hstop _ d pre _ (Nat.le_refl _) (hkept (hkb.trans (KeptBut.putObj _ _ _ (.inr rfl)))) hSp ((hIx d).putObj _ hi (.inr rfl)) ((World.putObj_heap_other (by omega)).trans hk)⟩

end Go.Proofs.Ytgjikoebneiamaa.Tb
namespace Go.Proofs.Ytgjikoebneiamaa.Tb
open Go.RowKit Go.Shelf

attribute [local go_sem] Oper.semAt_some

def flatTo {α : Type} (f : Nat → List α) : Nat → List α
  | 0 => []
  | k + 1 => flatTo f k ++ f k
theorem flatTo_prefix {α : Type} (f : Nat → List α) : ∀ {k n : Nat}, k ≤ n → flatTo f k <+: flatTo f n
  | k, 0, h => by obtain rfl : k = 0 := by omega
                  exact List.prefix_refl _
  | k, n + 1, h => by
    by_cases e : k = n + 1
    · subst e; exact List.prefix_refl _
    · exact (flatTo_prefix f (by omega)).trans (List.prefix_append _ _)

theorem mem_flatTo {α : Type} {f : Nat → List α} {x : α} : ∀ {n : Nat}, x ∈ flatTo f n ↔ ∃ k, k < n ∧ x ∈ f k
  | 0 => by simp [flatTo]
  | n + 1 => by
    simp only [flatTo, List.mem_append, mem_flatTo]
    constructor
    · rintro (⟨k, hk, h⟩ | h)
      · exact ⟨k, by omega, h⟩
      · exact ⟨n, by omega, h⟩
    · rintro ⟨k, hk, h⟩
      by_cases e : k = n
      · subst e; exact .inr h
      · exact .inl ⟨k, by omega, h⟩

/-- All sawings that fit, that begin with first, and in which at most so many of the further marks are wrong; in the order of the search. -/
def sawL (S : Store) : Nat → Int → List Int → List (List Int)
  | 0, _, first => [first]
  | m + 1, wrong, first => flatTo (fun b =>
      if wrong - (if wrongAt S first.length b = true then 1 else 0) < 0 ∨ restS S (first ++ [(b : Int)]) b < 0 then []
      else sawL S m (wrong - (if wrongAt S first.length b = true then 1 else 0)) (first ++ [(b : Int)])) S.bars.length

/-- What the search yields for one bar of the next piece. -/
def sawAt (S : Store) (m : Nat) (wrong : Int) (first : List Int) (b : Nat) : List (List Int) :=
  if wrong - (if wrongAt S first.length b = true then 1 else 0) < 0 ∨ restS S (first ++ [(b : Int)]) b < 0 then []
  else sawL S m (wrong - (if wrongAt S first.length b = true then 1 else 0)) (first ++ [(b : Int)])
theorem sawL_succ (S : Store) (m : Nat) (wrong : Int) (first : List Int) : sawL S (m + 1) wrong first = flatTo (sawAt S m wrong first) S.bars.length := rfl

/-- Block Bk is the search's memory, and holds the bars first. -/
def Buf (Bk : Nat) (first : List Int) (W : World) : Prop :=
  ∃ arr : Array Value, W.heap[Bk]? = some (.cells arr 3) ∧ arr.size = 8 ∧ ∀ i, i < first.length → arr[i]? = some (.int .i64 (nth first i))
theorem Buf.lt {Bk : Nat} {first : List Int} {W : World} (h : Buf Bk first W) : Bk < W.heap.size := by
  obtain ⟨arr, h, _⟩ := h
  exact (Array.getElem?_eq_some_iff.1 h).1
theorem Buf.kept {Bk : Nat} {first : List Int} {W W' : World} (h : Buf Bk first W) (hk : W'.heap[Bk]? = W.heap[Bk]?) : Buf Bk first W' := by
  obtain ⟨arr, h1, h2⟩ := h
  exact ⟨arr, hk.trans h1, h2⟩
theorem Buf.cell {Bk : Nat} {first : List Int} {W : World} (h : Buf Bk first W) {i : Nat} (hi : i < first.length) : W.cell? ⟨Bk, i, none⟩ = some (.int .i64 (nth first i)) := by
  obtain ⟨arr, h1, h2, h3⟩ := h
  simp [World.cell?, h1, h3 i hi]
theorem Buf.some {Bk : Nat} {first : List Int} {W : World} (h : Buf Bk first W) {i : Nat} (hi : i < 8) : (W.cell? ⟨Bk, i, none⟩).isSome = true := by
  obtain ⟨arr, h1, h2, h3⟩ := h
  simp [World.cell?, h1, h2, hi]
theorem Buf.frozen {Bk : Nat} {first : List Int} {W : World} (h : Buf Bk first W) (i : Nat) : W.frozen? ⟨Bk, i, none⟩ = false := by
  obtain ⟨arr, h1, h2, h3⟩ := h
  simp [World.frozen?, h1]
theorem nth_snoc_lt {xs : List Int} {x : Int} {i : Nat} (h : i < xs.length) : nth (xs ++ [x]) i = nth xs i := by
  simp [nth, List.getElem?_append_left h]
theorem nth_snoc {xs : List Int} {x : Int} : nth (xs ++ [x]) xs.length = x := by simp [nth]
theorem Buf.put {Bk : Nat} {first : List Int} {W : World} (h : Buf Bk first W) (x : Int) (hl : first.length < 8) : Buf Bk (first ++ [x]) (W.setCell ⟨Bk, first.length, none⟩ (.int .i64 x)) := by
  obtain ⟨arr, h1, h2, h3⟩ := h
  refine ⟨arr.set first.length (.int .i64 x) (by omega), ?_, by simp [h2], fun i hi => ?_⟩
  · obtain ⟨hlt, hk⟩ := Array.getElem?_eq_some_iff.1 h1
    show (W.heap.modify Bk _)[Bk]? = _
    rw [Array.getElem?_eq_getElem (by rw [Array.size_modify]; exact hlt), Array.getElem_modify_self, hk]
    simp [Array.setIfInBounds, h2, hl]
  · simp only [List.length_append, List.length_cons, List.length_nil] at hi
    by_cases e : i = first.length
    · subst e
      rw [nth_snoc]
      simp
    · rw [nth_snoc_lt (by omega), Array.getElem?_set_ne (h := by omega) (by omega)]
      exact h3 i (by omega)
theorem Buf.drop {Bk : Nat} {first : List Int} {x : Int} {W : World} (h : Buf Bk (first ++ [x]) W) : Buf Bk first W := by
  obtain ⟨arr, h1, h2, h3⟩ := h
  exact ⟨arr, h1, h2, fun i hi => by have := h3 i (by simp; omega); rwa [nth_snoc_lt hi] at this⟩
theorem Buf.ints {Bk : Nat} {first : List Int} {W : World} (h : Buf Bk first W) {B cap : Nat} (hB : Bk < B) (hc : first.length ≤ cap) (hm : cap ≤ 8) (hw : ∀ x ∈ first, I64 x) :
    IntsAt B W (.slice (Option.some ⟨Bk, 0, none⟩) first.length cap) first :=
  ⟨_, cap, Bk, 0, rfl, hc, by unfold maxLen; omega, fun _ => ⟨rfl, hB⟩, fun i hi => by rw [Nat.zero_add]; exact h.cell hi, hw⟩

/-- Go's append of one number where there is room. -/
theorem wpListIn_append_room {F : Fence} {n : Nat} {P : Program} (w : World) {ops : Array Oper} {rest : List Oper} {o : Oper} {a : Act} {Q : Exit → Act → World → Prop}
    (hg : o.guard = none) (s x : Operand) (t : TypeId) (hop : o.op = Op.call { callee := Callee.builtin Builtin.append, args := #[s, x], argTypes := #[t, t] })
    (e : TypeId) (i : TypeInfo) (h1 : P.underlying t = some (.slice e)) (h2 : P.info? e = some i) (h4 : i.size = 1)
    (b k cap : Nat) (hs : a.eval s = .slice (some ⟨b, 0, none⟩) k cap) (ad : Addr) (c : Nat) (u : Value) (hx : a.eval x = .slice (some ad) 1 c)
    (hc : w.cell? ad = some u) (h1c : u.oneCell' = true) (hroom : k + 1 ≤ cap) (hsome : (w.cell? ⟨b, k, none⟩).isSome = true) (hfr : w.frozen? ⟨b, k, none⟩ = false)
    (hK : wpListIn F n P ops Q rest (a.put o.dst (.slice (some ⟨b, 0, none⟩) (k + 1) cap)) (w.setCell ⟨b, k, none⟩ u)) :
    wpListIn F n P ops Q (o :: rest) a w := by
  refine wpListIn_plain hg fun K hK' => ?_
  have hrun := run_append_room_cells (P := P) w t o.type e i h1 h2 b 0 k cap ad 1 c [u] (by simp [h4])
    (fun j v hj => by
      cases j with
      | zero => simp only [List.getElem?_cons_zero, Option.some.injEq] at hj; subst hj; have : ad.add 0 = ad := rfl; rw [this]; exact hc
      | succ j => simp at hj)
    (by simpa using h1c) hroom (by rw [h4]; simpa using hsome) (by rw [h4]; simpa using hfr)
  rw [h4] at hrun
  simp only [Nat.mul_one, Nat.zero_add, World.setCells] at hrun
  unfold Oper.wpIn
  refine ⟨?_, ?_⟩
  · simp [Oper.about, hop, resolve, Target.leads, Sem.run_pure]
  · rw [Oper.semAt_plain F _ _ (by rw [hop]; intro c hc'; cases hc')]
    simp [execOp, hop, resolve, invoke, builtin, hs, hx, hrun, Result.andThen]
    exact hK' _ _ hK
end Go.Proofs.Ytgjikoebneiamaa.Tb
namespace Go.Proofs.Ytgjikoebneiamaa.Tb
open Go.RowKit Go.Shelf

attribute [local go_sem] Oper.semAt_some

theorem inF {F : Fence} (hF : Hid (F = Fence.wide)) {n : Nat} {P : Program} {f : FuncId} {args : Array Value} {w : World} {R : Ending → World → Prop} (h : Calls P f args w R) : CallsIn F n P f args w R := by
  have := hF.out
  subst this
  exact callsIn_wide.2 h
theorem room_free {F : Fence} (hd : F.depth = none) (k : Nat) : F.room k := fun d h => by rw [hd] at h; cases h
theorem round_free {F : Fence} (hd : F.depth = none) {m m' : Nat} {P : Program} {l : Nat} {f : FuncId} {tmps : Array Value} {assign body : Code} {w : World} {R : Ending → World → Prop}
    (h : RoundIn F m P l f tmps assign body w R) : RoundIn F m' P l f tmps assign body w R := ⟨h.1, fun c cs _ => h.2 c cs (room_free hd _)⟩
theorem yield_free {F : Fence} (hd : F.depth = none) {m : Nat} (m' : Nat) {P : Program} {l : Nat} {args : Array Value} {W : World} {R : Ending → World → Prop} (h : YieldAt F m P l args W R) : YieldAt F m' P l args W R := by
  obtain ⟨fn, tmps, assign, body, hy, hR⟩ := h
  exact ⟨fn, tmps, assign, body, hy, round_free hd hR⟩

def capS (S : Store) : Nat := if S.pieces.length = 0 then 8 else S.pieces.length
theorem I64_small {x : Int} (h0 : 0 ≤ x) (h1 : x ≤ 1000) : I64 x := ⟨by omega, by omega⟩

/-- What is told of one part of the search: how it ends. -/
def SawPost (Bk : Nat) (own : Nat → Prop) (J Jx : List (List Int) → World → Prop) (pre ys : List (List Int)) (first : List Int) (W : World) (e : Ending) (W' : World) : Prop :=
  (e = .returned (.bool true) ∧ J (pre ++ ys) W' ∧ Buf Bk first W' ∧ KeptBut (fun k => own k ∨ k = Bk) W W') ∨
  (e = .returned (.bool false) ∧ (∃ q, q <+: ys ∧ Jx (pre ++ q) W') ∧ KeptBut (fun k => own k ∨ k = Bk) W W')
theorem box4_of {wr : World} {b : Nat} {v0 v1 v2 v3 : Value} {t : TypeId} (e : wr.heap[b]? = some (.cells #[v0, v1, v2, v3] t)) :
    wr.cell? ⟨b, 0, none⟩ = some v0 ∧ wr.cell? ⟨b, 1, none⟩ = some v1 ∧ wr.cell? ⟨b, 2, none⟩ = some v2 ∧ wr.cell? ⟨b, 3, none⟩ = some v3 := by
  refine ⟨?_, ?_, ?_, ?_⟩ <;> simp [World.cell?, e]

set_option maxRecDepth 100000 in
set_option maxHeartbeats 1000000 in
theorem saw_end (F : Fence) (_hF : Hid (F = Fence.wide)) (hd : F.depth = none) (hro : F.round = none) (hfn : ∀ f, F.fn f) (n l Bk cap : Nat) (v : Value) (S : Store) (wrong : Int) (first : List Int) (W : World) {B : Nat} {R : Ending → World → Prop}
    (hx : StoreAt B W v S) (hlen : first.length = S.pieces.length)
    (hy : ∀ o m, YieldAt F m Try.prog l #[.slice (some ⟨Bk, 0, none⟩) first.length cap] (W.alloc o) fun e W' => ∃ b, e = .returned (.bool b) ∧ R e W') :
    CallsIn F n Try.prog 129 #[v, .int .i64 wrong, .slice (some ⟨Bk, 0, none⟩) first.length cap, .func (.yield l) #[] #[]] W R := by
  obtain ⟨a, cap1, b1, off, a2, cap2, b2, off2, rfl, hm, hm2, HA, HC, HA2, HC2⟩ := hx.opened
  clear hx HA HC HA2 HC2
  have hn : ((first.length : Int) == (S.pieces.length : Int)) = true := by simp [hlen]
  have hl9 : first.length ≤ 9223372036854775807 := by omega
  have HL := Lib.hid hlen
  clear hlen
  obtain ⟨fn, tmps, assign, body, hyy, hR⟩ := hy (.cells #[.slice a S.bars.length cap1, .int .i64 S.kerf, .slice a2 S.pieces.length cap2, .int .i64 S.wrong] 69) (n - 1)
  refine callsIn_of_wp Try.func129 rfl (hfn _) ?_ hro
  simp only [Try.ntmps129, List.size_toArray, List.length_cons, List.length_nil, Nat.reduceAdd, Nat.reduceSub, Array.replicate_succ, Array.replicate_zero, List.push_toArray, List.append_toArray, List.nil_append, List.cons_append]
  gi_wp2
  refine hR.mono ?_
  rintro e W2 ⟨b, rfl, hr⟩
  gi_wp2
  exact hr

theorem cell_set_other {W : World} {b Bk o c : Nat} {x : Value} (h : b ≠ Bk) : (W.setCell ⟨Bk, o, none⟩ x).cell? ⟨b, c, none⟩ = W.cell? ⟨b, c, none⟩ :=
  World.cell?_of_block (Below.heap_setCell _ _ _ _ h)
theorem grown_of_kept {Bk : Nat} {A B : World} (h : KeptBut (fun j => j = Bk) A B) : A.grownBy B (some Bk) :=
  ⟨h.os, h.tape, h.output, h.size, fun k hk hne => h.block k hk (fun e => hne (by rw [e]))⟩
theorem okBars_snoc {S : Store} {first : List Int} {k : Nat} (h : OkBars S first) (hl : first.length < S.pieces.length) (hk : k < S.bars.length) : OkBars S (first ++ [(k : Int)]) := by
  refine ⟨by simp; omega, fun i hi => ?_⟩
  simp only [List.length_append, List.length_cons, List.length_nil] at hi
  by_cases e : i = first.length
  · subst e; rw [nth_snoc]; omega
  · rw [nth_snoc_lt (by omega)]; exact h.2 i (by omega)
theorem OkBars.i64 {S : Store} {L : List Int} (h : OkBars S L) (hV : Valid S) : ∀ x ∈ L, I64 x := fun x hx => by
  obtain ⟨i, hi, rfl⟩ := mem_iff_nth.1 hx
  have := h.2 i hi
  have := hV.nb
  exact I64_small (by omega) (by omega)

theorem Try_infoInt : (Try.prog.info? 3).map (fun i => (i.zero, i.size, i.bytes)) = some (some (.int .i64 0), 1, 8) := by kernel_rfl

set_option maxRecDepth 100000 in
set_option maxHeartbeats 4000000 in
theorem saw_in (F : Fence) (hF : Hid (F = Fence.wide)) (hd : F.depth = none) (hro : F.round = none) (hfn : ∀ f, F.fn f) (l n₀ Bk : Nat) (v : Value) (S : Store) (hV : Hid (Valid S)) (own : Nat → Prop) (J Jx : List (List Int) → World → Prop) (xs : List (List Int))
    (hn0 : n₀ ≤ Bk) (hown : Hid (∀ k, own k → n₀ ≤ k ∧ k < Bk)) (hJ : Hid (∀ s A B, J s A → A.grownBy B (some Bk) → J s B)) (hJx : Hid (∀ s A B, Jx s A → A.grownBy B (some Bk) → Jx s B))
    (hY : Hid (∀ m pre x W1, pre ++ [x] <+: xs → J pre W1 → Buf Bk x W1 → YieldAt F m Try.prog l #[.slice (some ⟨Bk, 0, none⟩) x.length (capS S)] W1 fun e W' =>
      (e = .returned (.bool true) ∧ J (pre ++ [x]) W' ∧ KeptBut own W1 W') ∨ (e = .returned (.bool false) ∧ Jx (pre ++ [x]) W' ∧ KeptBut own W1 W'))) :
    ∀ (m n : Nat) (wrong : Int) (first : List Int) (cap : Nat) (pre : List (List Int)) (W : World), first.length + m = S.pieces.length → 0 ≤ wrong → wrong ≤ 8 → cap = (if first.length = 0 then 8 else S.pieces.length) →
      StoreAt n₀ W v S → OkBars S first → Buf Bk first W → J pre W → pre ++ sawL S m wrong first <+: xs →
      CallsIn F n Try.prog 129 #[v, .int .i64 wrong, .slice (some ⟨Bk, 0, none⟩) first.length cap, .func (.yield l) #[] #[]] W (SawPost Bk own J Jx pre (sawL S m wrong first) first W) := by
  intro m
  induction m with
  | zero =>
    intro n wrong first cap pre W hlen hw0 hw8 hcap hx hO hb hj hpre
    have hc : cap = capS S := by unfold capS; rw [hcap]; have : first.length = S.pieces.length := by omega
                                 rw [this]
    subst hc
    refine saw_end F hF hd hro hfn n l Bk (capS S) v S wrong first W hx (by omega) (fun o k => ?_)
    have hka : KeptBut (fun k => own k ∨ k = Bk) W (W.alloc o) := KeptBut.of_below ((Below.refl _ W).alloc (Nat.le_refl _) o)
    refine YieldAt.mono (hY.out k pre first (W.alloc o) (by simpa [sawL] using hpre) (hJ.out _ _ _ hj (World.grownBy_alloc W o _)) (hb.kept (Below.heap_alloc W o Bk hb.lt))) ?_
    have hnb : ¬ own Bk := fun h => by have := (hown.out Bk h).2; omega
    rintro e W' (⟨rfl, h1, h2⟩ | ⟨rfl, h1, h2⟩)
    · exact ⟨true, rfl, .inl ⟨rfl, h1, (hb.kept (Below.heap_alloc W o Bk hb.lt)).kept (h2.block Bk (by have := hb.lt; simp; omega) hnb), hka.trans (h2.mono fun _ _ h => .inl h)⟩⟩
    · exact ⟨false, rfl, .inr ⟨rfl, ⟨[first], List.prefix_refl _, h1⟩, hka.trans (h2.mono fun _ _ h => .inl h)⟩⟩
  | succ m ih =>
    intro n wrong first cap pre W hlen hw0 hw8 hcap hx hO hb hj hpre
    have hx' := hx
    obtain ⟨a, cap1, b1, off, a2, cap2, b2, off2, rfl, hm, hm2, HA, HC, HA2, HC2⟩ := hx.opened
    clear hx HA HC HA2 HC2
    have hnp := hV.out.np
    have hbW := hb.lt
    have hn : ((first.length : Int) == (S.pieces.length : Int)) = false := by simp; omega
    have hc1 : S.pieces.length ≤ cap := by rw [hcap]; split <;> omega
    have hl1 : first.length < S.pieces.length := by omega
    have HL := Lib.hid hlen
    have HCAP := Lib.hid hcap
    have HB := Lib.hid hb
    have HO := Lib.hid hO
    have HJ0 := Lib.hid hj
    have HP := Lib.hid hpre
    have HX := Lib.hid hx'
    have HIH := Lib.hid ih
    clear hlen hcap hb hO hj hpre hx' ih
    obtain ⟨i0, hi, hz0, hz1, hz2⟩ := info_parts Try_infoInt
    refine callsIn_of_wp Try.func129 rfl (hfn _) ?_ hro
    simp only [Try.ntmps129, List.size_toArray, List.length_cons, List.length_nil, Nat.reduceAdd, Nat.reduceSub, Array.replicate_succ, Array.replicate_zero, List.push_toArray, List.append_toArray, List.nil_append, List.cons_append]
    gi_wp2
    gi_loopw [26] (fun i wr => ∃ k : Nat, k ≤ S.bars.length ∧ i = .int .i64 k ∧ Hid (J (pre ++ flatTo (sawAt S m wrong first) k) wr) ∧ Hid (Buf Bk first wr) ∧ Hid (KeptBut (fun k => own k ∨ k = Bk) (W.alloc (.cells #[.slice a S.bars.length cap1, .int .i64 S.kerf, .slice a2 S.pieces.length cap2, .int .i64 S.wrong] 69)) wr)) (fun i _ => S.bars.length - (intOf i).toNat)
    case atStart =>
      exact ⟨0, Nat.zero_le _, rfl, by simpa [flatTo, Hid] using hJ.out _ _ _ HJ0.out (World.grownBy_alloc W _ _), HB.out.kept (Below.heap_alloc W _ Bk hbW), KeptBut.refl _ _⟩
    case round =>
      obtain ⟨k, hk, rfl, hjk, hbk, hkb⟩ := hrel
      have hbox : wr.heap[W.heap.size]? = some (.cells #[.slice a S.bars.length cap1, .int .i64 S.kerf, .slice a2 S.pieces.length cap2, .int .i64 S.wrong] 69) :=
        (hkb.out.block W.heap.size (by simp) (by rintro (h | h); have := (hown.out _ h).2; omega; omega)).trans (heap_new W _)
      have HBX := Lib.hid hbox
      obtain ⟨c0, c1, c2, c3⟩ := box4_of hbox
      have hszr : W.heap.size + 1 ≤ wr.heap.size := by have := hkb.out.size; simpa using this
      clear hbox
      by_cases hlt : k < S.bars.length
      · have hxr : StoreAt n₀ wr (.agg #[.slice a S.bars.length cap1, .int .i64 S.kerf, .slice a2 S.pieces.length cap2, .int .i64 S.wrong]) S :=
          HX.out.below (((Below.refl n₀ W).alloc (by omega) _).trans (hkb.out.below (by simp; omega) (by rintro j (h | h); exact (hown.out _ h).1; omega)))
        have hnr : n₀ ≤ wr.heap.size := by omega
        cases hr : wrongAt S first.length k
        all_goals
          have HQ := Lib.hid hr
          clear hr
          gi_wp2_with fail
          refine (inF hF (isWrong_to (B := n₀) (p := (first.length : Int)) (b := (k : Int)) HQ.out hxr hnr (by omega) (by omega) (by omega) (by omega))).mono ?_
          rintro e w1 ⟨rfl, hb1⟩
          have hsz1 := hb1.size
          have hbx1 := (hb1.block W.heap.size (by omega)).trans HBX.out
          obtain ⟨f0, f1, f2, f3⟩ := box4_of hbx1
          have HBX1 := Lib.hid hbx1
          have HBK1 := Lib.hid (hbk.out.kept (hb1.block Bk (by omega)))
          clear hbx1 c0 c1 c2 c3
          have hbk1 : Bk < w1.heap.size := by omega
          have hwb1 : W.heap.size < w1.heap.size := by omega
          obtain ⟨u, hu⟩ := Option.isSome_iff_exists.1 (HBK1.out.some (i := first.length) (by omega))
          have hfr := HBK1.out.frozen first.length
          have g0 := (cell_set_other (W := w1) (o := first.length) (x := .int .i64 k) (c := 0) (show W.heap.size ≠ Bk by omega)).trans f0
          have g1 := (cell_set_other (W := w1) (o := first.length) (x := .int .i64 k) (c := 1) (show W.heap.size ≠ Bk by omega)).trans f1
          have g2 := (cell_set_other (W := w1) (o := first.length) (x := .int .i64 k) (c := 2) (show W.heap.size ≠ Bk by omega)).trans f2
          have g3 := (cell_set_other (W := w1) (o := first.length) (x := .int .i64 k) (c := 3) (show W.heap.size ≠ Bk by omega)).trans f3
        · gi_wp2_with fail
          obtain ⟨w2, hw2⟩ : ∃ w2, w2 = (w1.setCell ⟨Bk, first.length, none⟩ (.int .i64 k)).alloc (.cells #[.int .i64 k] 3) := ⟨_, rfl⟩
          rw [← hw2]
          have hk12 : KeptBut (fun j => j = Bk) w1 w2 := hw2 ▸ (KeptBut.setCell (own := fun j => j = Bk) w1 ⟨Bk, first.length, none⟩ _ rfl).trans (KeptBut.of_below ((Below.refl _ _).alloc (Nat.le_refl _) _))
          have hkr2 : KeptBut (fun j => j = Bk) wr w2 := (KeptBut.of_below hb1).trans hk12
          have hsz2 : w1.heap.size ≤ w2.heap.size := hk12.size
          have hbuf2 : Buf Bk (first ++ [(k : Int)]) w2 := hw2 ▸ (HBK1.out.put k (by omega)).kept (Below.heap_alloc _ _ _ (by simpa [World.setCell] using hbk1))
          have hbx2 : w2.heap[W.heap.size]? = some (.cells #[.slice a S.bars.length cap1, .int .i64 S.kerf, .slice a2 S.pieces.length cap2, .int .i64 S.wrong] 69) := (hk12.block W.heap.size (by omega) (by omega)).trans HBX1.out
          clear hw2 g0 g1 g2 g3 hu hfr hb1
          have hx2 : StoreAt n₀ w2 (.agg #[.slice a S.bars.length cap1, .int .i64 S.kerf, .slice a2 S.pieces.length cap2, .int .i64 S.wrong]) S := hxr.below (hkr2.below hnr (by rintro j rfl; exact hn0))
          have hOk : OkBars S (first ++ [(k : Int)]) := okBars_snoc HO.out hl1 hlt
          refine (inF hF (rest_any _ _ S (first ++ [(k : Int)]) k _ (B := w2.heap.size) hV.out (hx2.mono (by omega)) (Nat.le_refl _) (by simpa using hbuf2.ints (B := w2.heap.size) (cap := S.pieces.length) (by omega) (by simp; omega) hnp (hOk.i64 hV.out)) hOk.1 (by omega) (by omega))).mono ?_
          rintro e w3 ⟨rfl, hb3⟩
          have hsz3 := hb3.size
          have hkr3 : KeptBut (fun j => j = Bk) wr w3 := hkr2.trans (KeptBut.of_below hb3)
          have hj3 : J (pre ++ flatTo (sawAt S m wrong first) k) w3 := hJ.out _ _ _ hjk.out (grown_of_kept hkr3)
          have hbuf3 : Buf Bk (first ++ [(k : Int)]) w3 := hbuf2.kept (hb3.block Bk (by omega))
          have hbx3 := (hb3.block W.heap.size (by omega)).trans hbx2
          have hx3 := hx2.below (hb3.mono (by omega))
          obtain ⟨p0, p1, p2, p3⟩ := box4_of hbx3
          have hkw3 : KeptBut (fun j => own j ∨ j = Bk) (W.alloc (.cells #[.slice a S.bars.length cap1, .int .i64 S.kerf, .slice a2 S.pieces.length cap2, .int .i64 S.wrong] 69)) w3 := hkb.out.trans (hkr3.mono fun _ _ h => .inr h)
          have HJ3 := Lib.hid hj3
          have HBU3 := Lib.hid hbuf3
          have HBX3 := Lib.hid hbx3
          have HK3 := Lib.hid hkw3
          have HX3 := Lib.hid hx3
          have HOK := Lib.hid hOk
          clear hj3 hbuf3 hbx3 hkw3 hx3 hOk hkr3 hb3 hx2 hbx2 hbuf2 hkr2 hk12
          by_cases hr0 : restS S (first ++ [(k : Int)]) k < 0
          · gi_wp2
            exact ⟨⟨k + 1, by omega, by go_num, by show J (pre ++ flatTo (sawAt S m wrong first) (k + 1)) w3; simpa [flatTo, sawAt, hr0] using HJ3.out, HBU3.out.drop, HK3.out⟩, by simp [intOf]; omega⟩
          · have hat : sawAt S m wrong first k = sawL S m wrong (first ++ [(k : Int)]) := by simp [sawAt, hr0, HQ.out]; try omega
            have HAT := Lib.hid hat
            clear hat
            have hrec := HIH.out (n - 1) wrong (first ++ [(k : Int)]) S.pieces.length (pre ++ flatTo (sawAt S m wrong first) k) w3 (by have := HL.out; simp; omega) (by omega) (by omega) (by simp) HX3.out HOK.out HBU3.out HJ3.out (by
              rw [← HAT.out, List.append_assoc]
              exact ((List.prefix_append_right_inj pre).2 (flatTo_prefix (sawAt S m wrong first) (k := k + 1) hlt)).trans (by have := HP.out; rwa [sawL_succ] at this))
            have HREC := Lib.hid hrec
            clear hrec
            gi_wp2_with fail
            refine CallsIn.mono (by have := HREC.out; simpa only [List.length_append, List.length_cons, List.length_nil, Nat.zero_add] using this) ?_
            rintro e w4 (⟨rfl, h1, h2, h3⟩ | ⟨rfl, ⟨q, h1, h2⟩, h3⟩)
            · have H1 := Lib.hid h1
              have H2 := Lib.hid h2
              have H3 := Lib.hid h3
              clear h1 h2 h3
              gi_wp2
              exact ⟨⟨k + 1, by omega, by go_num, by have := H1.out; rw [← HAT.out, List.append_assoc] at this; exact this, H2.out.drop, HK3.out.trans H3.out⟩, by simp [intOf]; omega⟩
            · have H1 := Lib.hid h1
              have H2 := Lib.hid h2
              have H3 := Lib.hid h3
              clear h1 h2 h3
              gi_wp2
              go_ret
              exact .inr ⟨rfl, ⟨flatTo (sawAt S m wrong first) k ++ q, by
                rw [sawL_succ]
                exact ((List.prefix_append_right_inj _).2 (HAT.out ▸ H1.out)).trans (flatTo_prefix (sawAt S m wrong first) (k := k + 1) hlt), by rw [← List.append_assoc]; exact H2.out⟩, (KeptBut.of_below ((Below.refl _ W).alloc (Nat.le_refl _) _)).trans (HK3.out.trans H3.out)⟩
        · by_cases hw1 : 1 ≤ wrong
          case neg =>
            obtain ⟨w2, hw2⟩ : ∃ w2, w2 = (w1.setCell ⟨Bk, first.length, none⟩ (.int .i64 k)).alloc (.cells #[.int .i64 k] 3) := ⟨_, rfl⟩
            have hk12 : KeptBut (fun j => j = Bk) w1 w2 := hw2 ▸ (KeptBut.setCell (own := fun j => j = Bk) w1 ⟨Bk, first.length, none⟩ _ rfl).trans (KeptBut.of_below ((Below.refl _ _).alloc (Nat.le_refl _) _))
            have hkr2 : KeptBut (fun j => j = Bk) wr w2 := (KeptBut.of_below hb1).trans hk12
            have hbuf2 : Buf Bk (first ++ [(k : Int)]) w2 := hw2 ▸ (HBK1.out.put k (by omega)).kept (Below.heap_alloc _ _ _ (by simpa [World.setCell] using hbk1))
            have hj2 : J (pre ++ flatTo (sawAt S m wrong first) k) w2 := hJ.out _ _ _ hjk.out (grown_of_kept hkr2)
            have hkw2 := hkb.out.trans (hkr2.mono (own' := fun j => own j ∨ j = Bk) fun _ _ h => .inr h)
            have hat : sawAt S m wrong first k = [] := by simp [sawAt, HQ.out]; intro h; omega
            have HAT := Lib.hid hat
            have HW2 := Lib.hid hw2
            have HJ2 := Lib.hid hj2
            have HBU2 := Lib.hid hbuf2
            have HK2 := Lib.hid hkw2
            clear hat hw2 hj2 hbuf2 hkw2 hkr2 hk12
            gi_wp2
            rw [← HW2.out]
            exact ⟨⟨k + 1, by omega, by go_num, by show J (pre ++ flatTo (sawAt S m wrong first) (k + 1)) w2; simpa [flatTo, HAT.out] using HJ2.out, HBU2.out.drop, HK2.out⟩, by simp [intOf]; omega⟩
          gi_wp2_with fail
          obtain ⟨w2, hw2⟩ : ∃ w2, w2 = (w1.setCell ⟨Bk, first.length, none⟩ (.int .i64 k)).alloc (.cells #[.int .i64 k] 3) := ⟨_, rfl⟩
          rw [← hw2]
          have hk12 : KeptBut (fun j => j = Bk) w1 w2 := hw2 ▸ (KeptBut.setCell (own := fun j => j = Bk) w1 ⟨Bk, first.length, none⟩ _ rfl).trans (KeptBut.of_below ((Below.refl _ _).alloc (Nat.le_refl _) _))
          have hkr2 : KeptBut (fun j => j = Bk) wr w2 := (KeptBut.of_below hb1).trans hk12
          have hsz2 : w1.heap.size ≤ w2.heap.size := hk12.size
          have hbuf2 : Buf Bk (first ++ [(k : Int)]) w2 := hw2 ▸ (HBK1.out.put k (by omega)).kept (Below.heap_alloc _ _ _ (by simpa [World.setCell] using hbk1))
          have hbx2 : w2.heap[W.heap.size]? = some (.cells #[.slice a S.bars.length cap1, .int .i64 S.kerf, .slice a2 S.pieces.length cap2, .int .i64 S.wrong] 69) := (hk12.block W.heap.size (by omega) (by omega)).trans HBX1.out
          clear hw2 g0 g1 g2 g3 hu hfr hb1
          have hx2 : StoreAt n₀ w2 (.agg #[.slice a S.bars.length cap1, .int .i64 S.kerf, .slice a2 S.pieces.length cap2, .int .i64 S.wrong]) S := hxr.below (hkr2.below hnr (by rintro j rfl; exact hn0))
          have hOk : OkBars S (first ++ [(k : Int)]) := okBars_snoc HO.out hl1 hlt
          refine (inF hF (rest_any _ _ S (first ++ [(k : Int)]) k _ (B := w2.heap.size) hV.out (hx2.mono (by omega)) (Nat.le_refl _) (by simpa using hbuf2.ints (B := w2.heap.size) (cap := S.pieces.length) (by omega) (by simp; omega) hnp (hOk.i64 hV.out)) hOk.1 (by omega) (by omega))).mono ?_
          rintro e w3 ⟨rfl, hb3⟩
          have hsz3 := hb3.size
          have hkr3 : KeptBut (fun j => j = Bk) wr w3 := hkr2.trans (KeptBut.of_below hb3)
          have hj3 : J (pre ++ flatTo (sawAt S m wrong first) k) w3 := hJ.out _ _ _ hjk.out (grown_of_kept hkr3)
          have hbuf3 : Buf Bk (first ++ [(k : Int)]) w3 := hbuf2.kept (hb3.block Bk (by omega))
          have hbx3 := (hb3.block W.heap.size (by omega)).trans hbx2
          have hx3 := hx2.below (hb3.mono (by omega))
          obtain ⟨p0, p1, p2, p3⟩ := box4_of hbx3
          have hkw3 : KeptBut (fun j => own j ∨ j = Bk) (W.alloc (.cells #[.slice a S.bars.length cap1, .int .i64 S.kerf, .slice a2 S.pieces.length cap2, .int .i64 S.wrong] 69)) w3 := hkb.out.trans (hkr3.mono fun _ _ h => .inr h)
          have HJ3 := Lib.hid hj3
          have HBU3 := Lib.hid hbuf3
          have HBX3 := Lib.hid hbx3
          have HK3 := Lib.hid hkw3
          have HX3 := Lib.hid hx3
          have HOK := Lib.hid hOk
          clear hj3 hbuf3 hbx3 hkw3 hx3 hOk hkr3 hb3 hx2 hbx2 hbuf2 hkr2 hk12
          by_cases hr0 : restS S (first ++ [(k : Int)]) k < 0
          · gi_wp2
            exact ⟨⟨k + 1, by omega, by go_num, by show J (pre ++ flatTo (sawAt S m wrong first) (k + 1)) w3; simpa [flatTo, sawAt, hr0] using HJ3.out, HBU3.out.drop, HK3.out⟩, by simp [intOf]; omega⟩
          · have hat : sawAt S m wrong first k = sawL S m (wrong - 1) (first ++ [(k : Int)]) := by simp [sawAt, hr0, HQ.out]; try omega
            have HAT := Lib.hid hat
            clear hat
            have hrec := HIH.out (n - 1) (wrong - 1) (first ++ [(k : Int)]) S.pieces.length (pre ++ flatTo (sawAt S m wrong first) k) w3 (by have := HL.out; simp; omega) (by omega) (by omega) (by simp) HX3.out HOK.out HBU3.out HJ3.out (by
              rw [← HAT.out, List.append_assoc]
              exact ((List.prefix_append_right_inj pre).2 (flatTo_prefix (sawAt S m wrong first) (k := k + 1) hlt)).trans (by have := HP.out; rwa [sawL_succ] at this))
            have HREC := Lib.hid hrec
            clear hrec
            gi_wp2_with fail
            refine CallsIn.mono (by have := HREC.out; simpa only [List.length_append, List.length_cons, List.length_nil, Nat.zero_add] using this) ?_
            rintro e w4 (⟨rfl, h1, h2, h3⟩ | ⟨rfl, ⟨q, h1, h2⟩, h3⟩)
            · have H1 := Lib.hid h1
              have H2 := Lib.hid h2
              have H3 := Lib.hid h3
              clear h1 h2 h3
              gi_wp2
              exact ⟨⟨k + 1, by omega, by go_num, by have := H1.out; rw [← HAT.out, List.append_assoc] at this; exact this, H2.out.drop, HK3.out.trans H3.out⟩, by simp [intOf]; omega⟩
            · have H1 := Lib.hid h1
              have H2 := Lib.hid h2
              have H3 := Lib.hid h3
              clear h1 h2 h3
              gi_wp2
              go_ret
              exact .inr ⟨rfl, ⟨flatTo (sawAt S m wrong first) k ++ q, by
                rw [sawL_succ]
                exact ((List.prefix_append_right_inj _).2 (HAT.out ▸ H1.out)).trans (flatTo_prefix (sawAt S m wrong first) (k := k + 1) hlt), by rw [← List.append_assoc]; exact H2.out⟩, (KeptBut.of_below ((Below.refl _ W).alloc (Nat.le_refl _) _)).trans (HK3.out.trans H3.out)⟩
      · obtain rfl : S.bars.length = k := by omega
        gi_wp2
        go_ret
        exact .inl ⟨rfl, by rw [sawL_succ]; exact hjk.out, hbk.out, (KeptBut.of_below ((Below.refl _ W).alloc (Nat.le_refl _) _)).trans hkb.out⟩
end Go.Proofs.Ytgjikoebneiamaa.Tb
namespace Go.Proofs.Ytgjikoebneiamaa.Tb
open Go.RowKit Go.Shelf

attribute [local go_sem] Oper.semAt_some

theorem drew_below (w : World) : Below w.heap.size w w.drew := ⟨rfl, rfl, rfl, Nat.le_refl _, fun _ _ => rfl⟩

set_option maxRecDepth 100000 in
set_option maxHeartbeats 2000000 in
theorem sawings1_in (F : Fence) (hF : Hid (F = Fence.wide)) (hd : F.depth = none) (hro : F.round = none) (hfn : ∀ f, F.fn f) (n l n₀ c1 c2 : Nat) (v : Value) (S : Store) (wrong : Int) (hV : Hid (Valid S)) (hw0 : 0 ≤ wrong) (hw8 : wrong ≤ 8)
    (own : Nat → Prop) (J Jx : List (List Int) → World → Prop) (W : World) (hx : StoreAt n₀ W v S) (hn0 : n₀ ≤ W.heap.size)
    (hc1 : ∀ b0 b1 b2 b3, v = .agg #[b0, b1, b2, b3] → W.cell? ⟨c1, 0, none⟩ = some b0 ∧ W.cell? ⟨c1, 1, none⟩ = some b1 ∧ W.cell? ⟨c1, 2, none⟩ = some b2 ∧ W.cell? ⟨c1, 3, none⟩ = some b3)
    (hc2 : W.cell? ⟨c2, 0, none⟩ = some (.int .i64 wrong))
    (hown : Hid (∀ k, own k → n₀ ≤ k ∧ k < W.heap.size)) (hJ : Hid (∀ s A B, J s A → A.grownBy B (some W.heap.size) → J s B)) (hJx : Hid (∀ s A B, Jx s A → A.grownBy B (some W.heap.size) → Jx s B))
    (hY : Hid (∀ m pre x W1, pre ++ [x] <+: sawL S S.pieces.length wrong [] → J pre W1 → Buf W.heap.size x W1 → YieldAt F m Try.prog l #[.slice (some ⟨W.heap.size, 0, none⟩) x.length (capS S)] W1 fun e W' =>
      (e = .returned (.bool true) ∧ J (pre ++ [x]) W' ∧ KeptBut own W1 W') ∨ (e = .returned (.bool false) ∧ Jx (pre ++ [x]) W' ∧ KeptBut own W1 W')))
    (h0 : Hid (J [] W)) :
    CallsIn F n Try.prog 128 #[.func (.yield l) #[] #[], .pointer (some ⟨c1, 0, none⟩), .pointer (some ⟨c2, 0, none⟩)] W fun e W' => (∃ v, e = .returned v) ∧ KeptBut own W W' ∧
      (J (sawL S S.pieces.length wrong []) W' ∨ ∃ pre, pre <+: sawL S S.pieces.length wrong [] ∧ Jx pre W') := by
  have hx' := hx
  obtain ⟨a, cap1, b1, off, a2, cap2, b2, off2, rfl, hm, hm2, HA, HC, HA2, HC2⟩ := hx.opened
  obtain ⟨q0, q1, q2, q3⟩ := hc1 _ _ _ _ rfl
  have hlt1 : c1 < W.heap.size := World.block_lt_of_cell? W ⟨c1, 0, none⟩ q0
  have hlt2 : c2 < W.heap.size := World.block_lt_of_cell? W ⟨c2, 0, none⟩ hc2
  have HX := Lib.hid hx'
  clear hx hx' HA HC HA2 HC2 hc1
  refine callsIn_of_wp Try.func128 rfl (hfn _) ?_ hro
  simp only [Try.ntmps128, List.size_toArray, List.length_cons, List.length_nil, Nat.reduceAdd, Nat.reduceSub, Array.replicate_succ, Array.replicate_zero, List.push_toArray, List.append_toArray, List.nil_append, List.cons_append]
  gi_wp2
  have hrec : ∀ (n : Nat) (W1 : World), Below W.heap.size W W1 → Buf W.heap.size [] W1 → CallsIn F n Try.prog 129 #[.agg #[.slice a S.bars.length cap1, .int .i64 S.kerf, .slice a2 S.pieces.length cap2, .int .i64 S.wrong], .int .i64 wrong, .slice (some ⟨W.heap.size, 0, none⟩) 0 8, .func (.yield l) #[] #[]] W1
      (fun e W2 => ∃ b, e = .returned (.bool b) ∧ KeptBut own W W2 ∧ (J (sawL S S.pieces.length wrong []) W2 ∨ ∃ pre, pre <+: sawL S S.pieces.length wrong [] ∧ Jx pre W2)) := fun n W1 hb hbuf =>
    (saw_in F hF hd hro hfn l n₀ W.heap.size _ S hV own J Jx _ hn0 hown hJ hJx hY S.pieces.length n wrong [] 8 [] W1 (by simp) hw0 hw8 (by simp) (HX.out.below (hb.mono hn0)) ⟨by simp, fun i hi => by simp at hi⟩ hbuf
      (hJ.out _ _ _ h0.out (grown_of_kept (KeptBut.of_below hb))) (by simp)).mono (by
      have hkb : ∀ {W2 : World}, KeptBut (fun k => own k ∨ k = W.heap.size) W1 W2 → KeptBut own W W2 := fun h =>
        ⟨h.os.trans hb.os, h.tape.trans hb.tape, h.output.trans hb.output, Nat.le_trans hb.size h.size, fun k hk ho => (h.block k (Nat.lt_of_lt_of_le hk hb.size) (by rintro (h | h); exact ho h; omega)).trans (hb.block k hk)⟩
      rintro e W2 (⟨rfl, h1, h2, h3⟩ | ⟨rfl, ⟨q, h1, h2⟩, h3⟩)
      · exact ⟨true, rfl, hkb h3, .inl h1⟩
      · exact ⟨false, rfl, hkb h3, .inr ⟨q, h1, h2⟩⟩)
  have HREC := Lib.hid hrec
  clear hrec
  have hmo : Try.prog.follows .mixedOrders = true := by kernel_rfl
  have hmk : ∀ w, (Instr.makeSlice 33 (.int .i64 0) (.int .i64 8)).run Try.prog w = .ok (.slice (some ⟨w.heap.size, 0, none⟩) 0 8) (w.alloc (.cells #[.int .i64 0, .int .i64 0, .int .i64 0, .int .i64 0, .int .i64 0, .int .i64 0, .int .i64 0, .int .i64 0] 3)) := fun _ => by kernel_rfl
  gi_region_with_o (gi_at_call 129; refine CallsIn.mono (HREC.out _ _ (by exact ((Below.refl _ W).alloc (Nat.le_refl _) _).drew) (by exact ⟨_, heap_new W _, rfl, fun i hi => by simp at hi⟩)) ?_; rintro e W2 ⟨b, rfl, hp⟩; have HP := Lib.hid hp; clear hp)
  all_goals gi_wp2
  all_goals go_end0
  all_goals exact ⟨⟨_, rfl⟩, HP.out⟩

/-- The value that 'sawings' hands back keeps the contract. -/
theorem seq_sawings (F : Fence) (hF : Hid (F = Fence.wide)) (hd : F.depth = none) (hro : F.round = none) (hfn : ∀ f, F.fn f) (n n₀ c1 c2 : Nat) (v : Value) (S : Store) (wrong : Int) (hV : Hid (Valid S)) (hw0 : 0 ≤ wrong) (hw8 : wrong ≤ 8)
    (w : World) (hx : StoreAt n₀ w v S) (hn0 : n₀ ≤ w.heap.size)
    (hc1 : ∀ b0 b1 b2 b3, v = .agg #[b0, b1, b2, b3] → w.cell? ⟨c1, 0, none⟩ = some b0 ∧ w.cell? ⟨c1, 1, none⟩ = some b1 ∧ w.cell? ⟨c1, 2, none⟩ = some b2 ∧ w.cell? ⟨c1, 3, none⟩ = some b3)
    (hc2 : w.cell? ⟨c2, 0, none⟩ = some (.int .i64 wrong)) :
    SeqY F n Try.prog 128 #[.pointer (some ⟨c1, 0, none⟩), .pointer (some ⟨c2, 0, none⟩)] 0 (fun Bk (x : List Int) => .slice (some ⟨Bk, 0, none⟩) x.length (capS S)) (fun Bk x W => Buf Bk x W) (sawL S S.pieces.length wrong []) (fun k => k < n₀) w := by
  intro l own J Jx W hW hown hJ hJx hY h0
  refine sawings1_in F hF hd hro hfn n l n₀ c1 c2 v S wrong hV hw0 hw8 own J Jx W (hx.below (hW.mono hn0)) (Nat.le_trans hn0 hW.size) (fun b0 b1 b2 b3 e => ?_) ?_ (fun k hk => ⟨by have := (hown k hk).2; omega, (hown k hk).1⟩) hJ hJx (fun m pre x W1 h1 h2 h3 => yield_free hd m (hY pre x W1 h1 h2 h3.lt h3)) h0
  · obtain ⟨q0, q1, q2, q3⟩ := hc1 b0 b1 b2 b3 e
    have hlt : c1 < w.heap.size := World.block_lt_of_cell? w ⟨c1, 0, none⟩ q0
    exact ⟨(hW.cell (p := ⟨c1, 0, none⟩) hlt).trans q0, (hW.cell (p := ⟨c1, 1, none⟩) hlt).trans q1, (hW.cell (p := ⟨c1, 2, none⟩) hlt).trans q2, (hW.cell (p := ⟨c1, 3, none⟩) hlt).trans q3⟩
  · exact (hW.cell (p := ⟨c2, 0, none⟩) (World.block_lt_of_cell? w ⟨c2, 0, none⟩ hc2)).trans hc2

theorem cell1_of {w : World} {b : Nat} {v : Value} {t : TypeId} (e : w.heap[b]? = some (.cells #[v] t)) : w.cell? ⟨b, 0, none⟩ = some v ∧ w.frozen? ⟨b, 0, none⟩ = false := by
  constructor <;> simp [World.cell?, World.frozen?, e]

/-- What the function value has captured. -/
def SeqAt (v : Value) (wr : Int) (c1 c2 : Nat) (w : World) : Prop :=
  (∀ b0 b1 b2 b3, v = .agg #[b0, b1, b2, b3] → w.cell? ⟨c1, 0, none⟩ = some b0 ∧ w.cell? ⟨c1, 1, none⟩ = some b1 ∧ w.cell? ⟨c1, 2, none⟩ = some b2 ∧ w.cell? ⟨c1, 3, none⟩ = some b3) ∧ w.cell? ⟨c2, 0, none⟩ = some (.int .i64 wr)
theorem seqAt_made (b0 b1 b2 b3 : Value) (wr : Int) (w : World) (t u : TypeId) : SeqAt (.agg #[b0, b1, b2, b3]) wr w.heap.size (w.heap.size + 1) ((w.alloc (.cells #[b0, b1, b2, b3] t)).alloc (.cells #[.int .i64 wr] u)) := by
  have e1 : ((w.alloc (.cells #[b0, b1, b2, b3] t)).alloc (.cells #[.int .i64 wr] u)).heap[w.heap.size]? = some (.cells #[b0, b1, b2, b3] t) := (Below.heap_alloc _ _ _ (by simp)).trans (heap_new w _)
  have e2 : ((w.alloc (.cells #[b0, b1, b2, b3] t)).alloc (.cells #[.int .i64 wr] u)).heap[w.heap.size + 1]? = some (.cells #[.int .i64 wr] u) := by
    have := heap_new (w.alloc (.cells #[b0, b1, b2, b3] t)) (.cells #[.int .i64 wr] u); rwa [World.size_alloc] at this
  refine ⟨fun c0 c1 c2 c3 e => ?_, (cell1_of e2).1⟩
  simp only [Value.agg.injEq, Array.mk.injEq, List.cons.injEq, and_true] at e
  obtain ⟨rfl, rfl, rfl, rfl⟩ := e
  exact box4_of e1

set_option maxHeartbeats 400000 in
theorem sawings_any (a a2 : Option Addr) (n1 n2 cap cap2 : Nat) (kerf wr wrong : Int) (w : World) :
    Calls Try.prog 120 #[.agg #[.slice a n1 cap, .int .i64 kerf, .slice a2 n2 cap2, .int .i64 wr], .int .i64 wrong] w fun e w' =>
      e = .returned (.func (.func 128) #[] #[.pointer (some ⟨w.heap.size, 0, none⟩), .pointer (some ⟨w.heap.size + 1, 0, none⟩)]) ∧
      Below w.heap.size w w' ∧ w'.heap.size = w.heap.size + 2 ∧ SeqAt (.agg #[.slice a n1 cap, .int .i64 kerf, .slice a2 n2 cap2, .int .i64 wr]) wrong w.heap.size (w.heap.size + 1) w' := by
  go_enter Try.func120, Try.ntmps120
  go_wp2
  go_ret
  exact ⟨rfl, ((Below.refl _ w).alloc (Nat.le_refl _) _).alloc (by simp) _, by simp, seqAt_made _ _ _ _ _ w _ _⟩

set_option maxHeartbeats 400000 in
theorem truths_any (a a2 : Option Addr) (n1 n2 cap cap2 : Nat) (kerf wr : Int) (w : World) :
    Calls Try.prog 103 #[.agg #[.slice a n1 cap, .int .i64 kerf, .slice a2 n2 cap2, .int .i64 wr]] w fun e w' =>
      e = .returned (.func (.func 128) #[] #[.pointer (some ⟨w.heap.size + 1, 0, none⟩), .pointer (some ⟨w.heap.size + 2, 0, none⟩)]) ∧
      Below w.heap.size w w' ∧ w'.heap.size = w.heap.size + 3 ∧ SeqAt (.agg #[.slice a n1 cap, .int .i64 kerf, .slice a2 n2 cap2, .int .i64 wr]) wr (w.heap.size + 1) (w.heap.size + 2) w' := by
  go_enter Try.func103, Try.ntmps103
  go_wp2_with (go_at_call 120; refine (sawings_any _ _ _ _ _ _ _ _ _ _).mono ?_; rintro e w' ⟨rfl, hb, hs, hq⟩; have HB := Lib.hid hb; have HS := Lib.hid hs; have HQ := Lib.hid hq; clear hb hs hq)
  go_ret
  have hb := HB.out
  have hs := HS.out
  have hq := HQ.out
  simp only [World.size_alloc] at hb hs hq
  exact ⟨by simp, ((Below.refl _ w).alloc (Nat.le_refl _) _).trans (hb.mono (by omega)), by omega, by simpa using hq⟩

theorem putObj_below {B : Nat} (W : World) {D : Nat} (o : Obj) (h : B ≤ D) : Below B W (W.putObj D o) :=
  ⟨rfl, rfl, rfl, by simp, fun k hk => World.putObj_heap_other (by omega)⟩
theorem setBox {W : World} {B : Nat} {t : TypeId} {v : Value} (v' : Value) (h : W.heap[B]? = some (.cells #[v] t)) : (W.setCell ⟨B, 0, none⟩ v').heap[B]? = some (.cells #[v'] t) := Boxed.set v' h

/-- The law for a caller that ranges over the sawings: own are the boxes that the body writes. -/
theorem wpIn_saw (F : Fence) (hF : Hid (F = Fence.wide)) (hd : F.depth = none) (hro : F.round = none) (hfn : ∀ f, F.fn f) {n : Nat} (h1 : 1 ≤ n) {g : Operand} {ps : Array Tmp} {assign body : Code} {Q : Exit → Act → World → Prop} {a : Act} {w : World}
    {c1 c2 : Nat} (hg : a.eval g = .func (.func 128) #[] #[.pointer (some ⟨c1, 0, none⟩), .pointer (some ⟨c2, 0, none⟩)]) (n₀ : Nat) (v : Value) (S : Store) (wrong : Int) (hV : Hid (Valid S)) (hw0 : 0 ≤ wrong) (hw8 : wrong ≤ 8)
    (hx : StoreAt n₀ w v S) (hn0 : n₀ ≤ w.heap.size)
    (hc1 : ∀ b0 b1 b2 b3, v = .agg #[b0, b1, b2, b3] → w.cell? ⟨c1, 0, none⟩ = some b0 ∧ w.cell? ⟨c1, 1, none⟩ = some b1 ∧ w.cell? ⟨c1, 2, none⟩ = some b2 ∧ w.cell? ⟨c1, 3, none⟩ = some b3)
    (hc2 : w.cell? ⟨c2, 0, none⟩ = some (.int .i64 wrong)) (hps : ps.size = 1)
    (own : Nat → Prop) (hown : ∀ k, own k → n₀ ≤ k ∧ k < w.heap.size)
    (I : List (List Int) → World → Prop) (Ix : Code → List (List Int) → World → Prop) (hI : OwnAt w.heap.size 0 I) (hIx : ∀ d, OwnAt w.heap.size 0 (Ix d)) (h0 : I [] w) (a₁ : Array Value → List Int → Act)
    (hassign : ∀ (l : Nat) (x : List Int) (W : World) (K : Act → World → Prop), K (a₁ a.tmps x) W →
      assign.wpIn (F.inRound l) (n - 1 - 1) Try.prog (Exit.then K (fun _ _ _ => False)) { tmps := (ps.zip #[.slice (some ⟨w.heap.size + 2, 0, none⟩) x.length (capS S)]).foldl (fun t (p, v) => t.setIfInBounds p v) a.tmps, defers := [] } W)
    (hbody : ∀ (l : Nat) (pre : List (List Int)) (x : List Int) (W : World), pre ++ [x] <+: sawL S S.pieces.length wrong [] → I pre W → KeptBut own w W → Buf (w.heap.size + 2) x W →
      body.wpIn (F.inRound l) (n - 1 - 1) Try.prog (postY own I Ix (pre ++ [x]) W) (a₁ a.tmps x) W)
    (hdone : ∀ (D : Nat) (W : World), w.heap.size ≤ D → KeptBut own w W → I (sawL S S.pieces.length wrong []) W → W.heap[D]? = some (.deferred (some [])) → Q .normal { a with defers := { target := .collected D, args := #[] } :: a.defers } W)
    (hstop : ∀ (D : Nat) (d : Code) (pre : List (List Int)) (W : World), w.heap.size ≤ D → KeptBut own w W → pre <+: sawL S S.pieces.length wrong [] → Ix d pre W → W.heap[D]? = some (.deferred (some [])) → d.wpIn F n Try.prog Q { a with defers := { target := .collected D, args := #[] } :: a.defers } W) :
    (Code.rangeFunc g ps assign body).wpIn F n Try.prog Q a w :=
  wpIn_rangeFunc_Y hro h1 hg (hfn _) (enters_of Try.func128 (by kernel_rfl) rfl) (seq_sawings F hF hd hro hfn (n - 1) n₀ c1 c2 v S wrong hV hw0 hw8 w hx hn0 hc1 hc2) (Below.refl _ _) hps
    own (fun k hk => ⟨(hown k hk).2, by have := (hown k hk).1; omega⟩) (fun k hk => by omega)
    (fun x A B hA hg => Buf.kept hA (hg.block _ hA.lt (by simp))) I Ix hI hIx h0 (a₁ a.tmps) hassign (fun l pre x W h1 h2 h3 _ h5 => hbody l pre x W h1 h2 h3 h5) hdone hstop

theorem flatTo_length {α : Type} (f : Nat → List α) (b : Nat) (h : ∀ k, (f k).length ≤ b) : ∀ n, (flatTo f n).length ≤ n * b
  | 0 => by simp [flatTo]
  | n + 1 => by have := flatTo_length f b h n; have := h n; simp only [flatTo, List.length_append, Nat.succ_mul]; omega
theorem sawAt_cases (S : Store) (m : Nat) (wrong : Int) (first : List Int) (k : Nat) : sawAt S m wrong first k = [] ∨
    (sawAt S m wrong first k = sawL S m (wrong - (if wrongAt S first.length k = true then 1 else 0)) (first ++ [(k : Int)]) ∧ 0 ≤ wrong - (if wrongAt S first.length k = true then 1 else 0) ∧ 0 ≤ restS S (first ++ [(k : Int)]) k) := by
  unfold sawAt
  by_cases h : wrong - (if wrongAt S first.length k = true then 1 else 0) < 0 ∨ restS S (first ++ [(k : Int)]) k < 0
  · rw [if_pos h]; exact .inl rfl
  · rw [if_neg h]; exact .inr ⟨rfl, by omega, by omega⟩
theorem sawL_length {S : Store} (hV : Valid S) : ∀ (m : Nat) (wrong : Int) (first : List Int), (sawL S m wrong first).length ≤ 6 ^ m
  | 0, _, _ => by simp [sawL]
  | m + 1, wrong, first => by
    rw [sawL_succ]
    refine Nat.le_trans (flatTo_length _ (6 ^ m) (fun k => ?_) _) ?_
    · rcases sawAt_cases S m wrong first k with h | ⟨h, _⟩
      · rw [h]; simp
      · rw [h]; exact sawL_length hV m _ _
    · rw [Nat.pow_succ, Nat.mul_comm]; exact Nat.mul_le_mul_left _ hV.nb
theorem sawL_len {S : Store} (hV : Valid S) (wrong : Int) : (sawL S S.pieces.length wrong []).length ≤ 1679616 :=
  Nat.le_trans (sawL_length hV _ _ _) (Nat.pow_le_pow_right (by omega) hV.np)
def errN (n : Nat) : Int := if n = 0 then 3 else 0
theorem errN_zero : errN 0 = 3 := rfl
theorem errN_pos {n : Nat} (h : n ≠ 0) : errN n = 0 := if_neg h
def truthsL (S : Store) : List (List Int) := sawL S S.pieces.length S.wrong []
end Go.Proofs.Ytgjikoebneiamaa.Tb
namespace Go.Proofs.Ytgjikoebneiamaa.Tb
open Go.RowKit Go.Shelf

attribute [local go_sem] Oper.semAt_some

theorem boxed_prefix {own : Nat → Prop} {w W : World} {k : Nat} {o : Obj} (h : KeptBut own w W) (hk : w.heap[k]? = some o) (hn : ¬ own k) : W.heap[k]? = some o :=
  (h.block k (Array.getElem?_eq_some_iff.1 hk).1 hn).trans hk

end Go.Proofs.Ytgjikoebneiamaa.Tb
namespace Go.Proofs.Ytgjikoebneiamaa.Tb
open Go.RowKit Go.Shelf

attribute [local go_sem] Oper.semAt_some

theorem heap_at2 (w : World) (a b : Obj) : ((w.alloc a).alloc b).heap[w.heap.size]? = some a ∧ ((w.alloc a).alloc b).heap[w.heap.size + 1]? = some b :=
  ⟨(Below.heap_alloc _ _ _ (by simp)).trans (heap_new w a), by have := heap_new (w.alloc a) b; rwa [World.size_alloc] at this⟩
theorem heap_at3 (w : World) (a b c : Obj) : (((w.alloc a).alloc b).alloc c).heap[w.heap.size]? = some a ∧ (((w.alloc a).alloc b).alloc c).heap[w.heap.size + 1]? = some b ∧ (((w.alloc a).alloc b).alloc c).heap[w.heap.size + 2]? = some c :=
  ⟨(Below.heap_alloc _ _ _ (by simp; omega)).trans (heap_at2 w a b).1, (Below.heap_alloc _ _ _ (by simp)).trans (heap_at2 w a b).2, by have := heap_new ((w.alloc a).alloc b) c; simpa only [World.size_alloc, Nat.add_assoc] using this⟩
theorem below_at2 (w : World) (a b : Obj) : Below w.heap.size w ((w.alloc a).alloc b) := ((Below.refl _ w).alloc (Nat.le_refl _) _).alloc (by simp) _
theorem below_at3 (w : World) (a b c : Obj) : Below w.heap.size w (((w.alloc a).alloc b).alloc c) := (below_at2 w a b).alloc (by simp; omega) _
theorem kept_heap {own : Nat → Prop} {w W : World} {k : Nat} {o : Obj} (h : KeptBut own w W) (hk : w.heap[k]? = some o) (hn : ¬ own k) : W.heap[k]? = some o :=
  (h.block k (Array.getElem?_eq_some_iff.1 hk).1 hn).trans hk
theorem own_heap {w W : World} {B : Nat} {row : Option Nat} {k : Nat} {o : Obj} (hk : w.heap[k]? = some o) (hg : w.grownBy W row) (hr : ∀ r, row = some r → r = B ∨ r = B + 1 ∨ r = B + 2 + 0) (h : k < B) : W.heap[k]? = some o :=
  (hg.block _ (Array.getElem?_eq_some_iff.1 hk).1 (fun e => by have := hr _ e.symm; omega)).trans hk
theorem cell2_of {w : World} {b : Nat} {v0 v1 : Value} {t : TypeId} (e : w.heap[b]? = some (.cells #[v0, v1] t)) :
    w.cell? ⟨b, 0, none⟩ = some v0 ∧ w.cell? ⟨b, 1, none⟩ = some v1 ∧ w.frozen? ⟨b, 0, none⟩ = false ∧ w.frozen? ⟨b, 1, none⟩ = false := by
  refine ⟨?_, ?_, ?_, ?_⟩ <;> simp [World.cell?, World.frozen?, e]

theorem heap_set {W : World} {B o : Nat} {cs : Array Value} {t : TypeId} (v : Value) (h : W.heap[B]? = some (.cells cs t)) : (W.setCell ⟨B, o, none⟩ v).heap[B]? = some (.cells (cs.setIfInBounds o v) t) := by
  obtain ⟨hlt, hk⟩ := Array.getElem?_eq_some_iff.1 h
  show (W.heap.modify B _)[B]? = _
  rw [Array.getElem?_eq_getElem (by rw [Array.size_modify]; exact hlt), Array.getElem_modify_self, hk]
  rfl
theorem heap_set_other {W : World} {B B' o : Nat} {ob : Obj} (v : Value) (h : W.heap[B]? = some ob) (hne : B ≠ B') : (W.setCell ⟨B', o, none⟩ v).heap[B]? = some ob :=
  (Below.heap_setCell _ _ _ _ hne).trans h
def someB (xs : List (List Int)) : Bool := !xs.isEmpty
theorem someB_snoc (xs : List (List Int)) (x : List Int) : someB (xs ++ [x]) = true := by simp [someB]

def restStep (S : Store) (b : Int) (p : Int × Int) (x : List Int) : Int × Int := (min p.1 (restS S x b), max p.2 (restS S x b))
def restSpan (S : Store) (b : Int) (xs : List (List Int)) : Int × Int := xs.foldl (restStep S b) (999, 0)
theorem restSpan_snoc (S : Store) (b : Int) (xs : List (List Int)) (x : List Int) : restSpan S b (xs ++ [x]) = restStep S b (restSpan S b xs) x := by simp [restSpan]
def restV (S : Store) (b : Int) : Value :=
  if (truthsL S).length = 0 then .tuple #[.agg #[.int .i64 0, .int .i64 0], .int .i64 3]
  else .tuple #[.agg #[.int .i64 (restSpan S b (truthsL S)).1, .int .i64 (restSpan S b (truthsL S)).2], .int .i64 0]

theorem someB_false {xs : List (List Int)} (h : someB xs = false) : xs.length = 0 := by
  cases xs with
  | nil => rfl
  | cons x xs => simp [someB] at h
theorem someB_true {xs : List (List Int)} (h : someB xs = true) : xs.length ≠ 0 := by
  cases xs with
  | nil => simp [someB] at h
  | cons x xs => simp
theorem restV_none {S : Store} {b : Int} (h : (sawL S S.pieces.length S.wrong []).length = 0) : restV S b = .tuple #[.agg #[.int .i64 0, .int .i64 0], .int .i64 3] := if_pos h
theorem restV_some {S : Store} {b : Int} (h : (sawL S S.pieces.length S.wrong []).length ≠ 0) :
    restV S b = .tuple #[.agg #[.int .i64 (restSpan S b (sawL S S.pieces.length S.wrong [])).1, .int .i64 (restSpan S b (sawL S S.pieces.length S.wrong [])).2], .int .i64 0] := if_neg h

theorem ints_putObj {B : Nat} {w : World} {v : Value} {xs : List Int} (h : IntsAt B w v xs) {D : Nat} {ds : List Deferred} {o : Obj} (hD : w.heap[D]? = some (.deferred (some ds))) : IntsAt B (w.putObj D o) v xs := by
  obtain ⟨a, cap, b, off, hv, hl, hm, ha, hc, hw⟩ := h
  refine ⟨a, cap, b, off, hv, hl, hm, ha, fun i hi => ?_, hw⟩
  have h1 := hc i hi
  have hne : b ≠ D := by
    rintro rfl
    simp [World.cell?, hD] at h1
  exact (World.cell?_of_block (World.putObj_heap_other hne)).trans h1

/-- Each sawing that the search yields has a bar of the store for each piece. -/
theorem sawL_okBars {S : Store} : ∀ (m : Nat) (wrong : Int) (first : List Int), first.length + m = S.pieces.length → OkBars S first → ∀ x ∈ sawL S m wrong first, OkBars S x ∧ x.length = S.pieces.length
  | 0, _, first, hl, hO, x, hx => by
    simp only [sawL, List.mem_singleton] at hx
    subst hx; exact ⟨hO, by omega⟩
  | m + 1, wrong, first, hl, hO, x, hx => by
    rw [sawL_succ] at hx
    obtain ⟨k, hk, hx⟩ := mem_flatTo.1 hx
    rcases sawAt_cases S m wrong first k with h | ⟨h, _⟩
    · rw [h] at hx; cases hx
    · rw [h] at hx
      exact sawL_okBars m _ _ (by simp; omega) (okBars_snoc hO (by omega) hk) x hx
theorem prefix_mem {α : Type} {pre xs : List α} {x : α} (h : pre ++ [x] <+: xs) : x ∈ xs := h.subset (by simp)
theorem yielded_ok {S : Store} {wrong : Int} {pre : List (List Int)} {x : List Int} (h : pre ++ [x] <+: sawL S S.pieces.length wrong []) : OkBars S x ∧ x.length = S.pieces.length :=
  sawL_okBars _ _ _ (by simp) ⟨by simp, fun i hi => by simp at hi⟩ x (prefix_mem h)
theorem capS_le {S : Store} (hV : Valid S) : S.pieces.length ≤ capS S ∧ capS S ≤ 8 := by have := hV.np; unfold capS; split <;> omega
theorem yielded_ints {S : Store} (hV : Valid S) {wrong : Int} {pre : List (List Int)} {x : List Int} {Bk B : Nat} {W : World} (h : pre ++ [x] <+: sawL S S.pieces.length wrong []) (hb : Buf Bk x W) (hB : Bk < B) :
    IntsAt B W (.slice (some ⟨Bk, 0, none⟩) x.length (capS S)) x :=
  hb.ints hB (by rw [(yielded_ok h).2]; exact (capS_le hV).1) (capS_le hV).2 ((yielded_ok h).1.i64 hV)

end Go.Proofs.Ytgjikoebneiamaa.Tb
namespace Go.Proofs.Ytgjikoebneiamaa.Tb
open Go.RowKit

def numsTo (f : Nat → Bool) : Nat → List Int
  | 0 => []
  | k + 1 => numsTo f k ++ (if f k = true then [(k : Int)] else [])
theorem numsTo_length (f : Nat → Bool) : ∀ k, (numsTo f k).length ≤ k
  | 0 => by simp [numsTo]
  | k + 1 => by have := numsTo_length f k; simp only [numsTo, List.length_append]; split <;> simp <;> omega
theorem mem_numsTo {f : Nat → Bool} {x : Int} : ∀ {k : Nat}, x ∈ numsTo f k ↔ ∃ j, j < k ∧ x = (j : Int) ∧ f j = true
  | 0 => by simp [numsTo]
  | k + 1 => by
    simp only [numsTo, List.mem_append, mem_numsTo]
    constructor
    · rintro (⟨j, hj, rfl, h⟩ | h)
      · exact ⟨j, by omega, rfl, h⟩
      · split at h
        · simp only [List.mem_singleton] at h; exact ⟨k, by omega, h, by assumption⟩
        · cases h
    · rintro ⟨j, hj, rfl, h⟩
      by_cases e : j = k
      · subst e; exact .inr (by rw [if_pos h]; simp)
      · exact .inl ⟨j, by omega, rfl, h⟩

theorem numsTo_no {f : Nat → Bool} {k : Nat} (h : f k = false) : numsTo f (k + 1) = numsTo f k := by simp [numsTo, h]
theorem numsTo_yes {f : Nat → Bool} {k : Nat} (h : f k = true) : numsTo f (k + 1) = numsTo f k ++ [(k : Int)] := by simp [numsTo, h]

/-- A list of ints in memory of the call's own. -/
def GaveInts (xs : List Int) (w : World) (e : Ending) (w' : World) : Prop := ∃ v, e = .returned v ∧ IntsAt w'.heap.size w' v xs ∧ Below w.heap.size w w'

theorem ints_of_own {w : World} {base : Nat} {v : Value} {xs : List Int} (h : w.ownsRow base 3 1 v xs.length (xs.map (Value.int .i64))) (hw : ∀ x ∈ xs, I64 x) : IntsAt w.heap.size w v xs := by
  obtain ⟨_, ⟨rfl, h0⟩ | ⟨g, cap, cur, rfl, _, hg, hn, hm, hs, ht⟩⟩ := h
  · exact ⟨none, 0, 0, 0, by rw [h0], by omega, by unfold maxLen; omega, fun h => by omega, fun i hi => by omega, hw⟩
  · refine ⟨_, cap, g, 0, rfl, hn, hm, fun _ => ⟨rfl, (Array.getElem?_eq_some_iff.1 hg).1⟩, fun i hi => ?_, hw⟩
    have h1 : cur.toList[i]? = some (.int .i64 (nth xs i)) := by
      have : (cur.toList.take (xs.length * 1))[i]? = some (.int .i64 (nth xs i)) := by rw [ht]; simp [hi, nth_lt hi]
      rwa [List.getElem?_take_of_lt (by omega)] at this
    simp only [Nat.zero_add, World.cell?, hg, Option.isSome_none, Bool.false_eq_true, if_false]
    rwa [Array.getElem?_toList] at h1

/-- A []int in blocks from lo on. -/
def IntsOver (lo : Nat) (w : World) (v : Value) (xs : List Int) : Prop :=
  ∃ a cap b off, v = .slice a xs.length cap ∧ xs.length ≤ cap ∧ cap ≤ maxLen ∧ (0 < xs.length → a = some ⟨b, off, none⟩ ∧ lo ≤ b ∧ b < w.heap.size) ∧
    (∀ i, i < xs.length → w.cell? ⟨b, off + i, none⟩ = some (.int .i64 (nth xs i))) ∧ ∀ x ∈ xs, I64 x
theorem IntsOver.at {lo : Nat} {w : World} {v : Value} {xs : List Int} (h : IntsOver lo w v xs) : IntsAt w.heap.size w v xs := by
  obtain ⟨a, cap, b, off, hv, hl, hm, ha, hc, hw⟩ := h
  exact ⟨a, cap, b, off, hv, hl, hm, fun h => ⟨(ha h).1, (ha h).2.2⟩, hc, hw⟩
theorem IntsOver.grown {lo : Nat} {w w' : World} {v : Value} {xs : List Int} {row : Option Nat} (h : IntsOver lo w v xs) (hg : w.grownBy w' row) (hr : ∀ r, row = some r → r < lo) : IntsOver lo w' v xs := by
  obtain ⟨a, cap, b, off, hv, hl, hm, ha, hc, hw⟩ := h
  exact ⟨a, cap, b, off, hv, hl, hm, fun h => ⟨(ha h).1, (ha h).2.1, Nat.lt_of_lt_of_le (ha h).2.2 hg.size⟩, fun i hi =>
    (World.cell?_of_block (hg.block b (ha (by omega)).2.2 (fun e => by have := hr b e.symm; have := (ha (by omega)).2.1; omega))).trans (hc i hi), hw⟩
theorem IntsOver.mono {lo lo' : Nat} {w : World} {v : Value} {xs : List Int} (h : IntsOver lo w v xs) (hl : lo' ≤ lo) : IntsOver lo' w v xs := by
  obtain ⟨a, cap, b, off, hv, hl, hm, ha, hc, hw⟩ := h
  exact ⟨a, cap, b, off, hv, hl, hm, fun h => ⟨(ha h).1, by have := (ha h).2.1; omega, (ha h).2.2⟩, hc, hw⟩
theorem IntsOver.below {lo : Nat} {w w' : World} {v : Value} {xs : List Int} (h : IntsOver lo w v xs) (hb : Below w.heap.size w w') : IntsOver lo w' v xs :=
  h.grown (row := none) ⟨hb.os, hb.tape, hb.output, hb.size, fun k hk _ => hb.block k hk⟩ (fun r e => by cases e)

theorem over_of_own {w : World} {base : Nat} {v : Value} {xs : List Int} (h : w.ownsRow base 3 1 v xs.length (xs.map (Value.int .i64))) (hw : ∀ x ∈ xs, I64 x) : IntsOver base w v xs := by
  obtain ⟨_, ⟨rfl, h0⟩ | ⟨g, cap, cur, rfl, hge, hg, hn, hm, hs, ht⟩⟩ := h
  · exact ⟨none, 0, 0, 0, by rw [h0], by omega, by unfold maxLen; omega, fun h => by omega, fun i hi => by omega, hw⟩
  · refine ⟨_, cap, g, 0, rfl, hn, hm, fun _ => ⟨rfl, hge, (Array.getElem?_eq_some_iff.1 hg).1⟩, fun i hi => ?_, hw⟩
    have h1 : cur.toList[i]? = some (.int .i64 (nth xs i)) := by
      have : (cur.toList.take (xs.length * 1))[i]? = some (.int .i64 (nth xs i)) := by rw [ht]; simp [hi, nth_lt hi]
      rwa [List.getElem?_take_of_lt (by omega)] at this
    simp only [Nat.zero_add, World.cell?, hg, Option.isSome_none, Bool.false_eq_true, if_false]
    rwa [Array.getElem?_toList] at h1

set_option maxHeartbeats 1000000 in
theorem clone_any (b n cap : Nat) (xs : List Int) (w : World) (hn : xs.length = n) (hc : Hid (∀ i, i < xs.length → w.cell? ⟨b, i, none⟩ = some (.int .i64 (nth xs i)))) (hlt0 : b < w.heap.size) (hl : n ≤ 100) (_hw : Hid (∀ x ∈ xs, I64 x)) :
    Calls Try.prog 105 #[.slice (some ⟨b, 0, none⟩) n cap] w (fun e w' => ∃ rv, e = .returned rv ∧ ((∀ x ∈ xs, I64 x) → IntsOver w.heap.size w' rv xs) ∧ Below w.heap.size w w') := by
  obtain ⟨i0, hi, hz0, hz1, hz2⟩ := info_parts Try_infoInt
  have HN := Lib.hid hn
  clear hn
  have hxs : Hid (∀ j u, (xs.map (Value.int .i64))[j]? = some u → (w.alloc (.cells #[] 3)).cell? ((⟨b, 0, none⟩ : Addr).add j) = some u) := fun j u hu => by
    simp only [List.getElem?_map, Option.map_eq_some_iff] at hu
    obtain ⟨x, hx, rfl⟩ := hu
    have hj : j < xs.length := (List.getElem?_eq_some_iff.1 hx).1
    have he : x = nth xs j := by rw [nth_lt hj]; exact ((List.getElem?_eq_some_iff.1 hx).2).symm
    have ha : (⟨b, 0, none⟩ : Addr).add j = ⟨b, j, none⟩ := by rw [Addr.add_lit, Nat.zero_add]
    rw [ha, he]
    exact (Below.cell ((Below.refl _ w).alloc (Nat.le_refl _) _) (p := ⟨b, j, none⟩) hlt0).trans (hc.out j hj)
  have q22 : ∀ (w : World) (a : Option Addr) (n c n' c' : Nat), (binOp .eql 33 (.slice a n c) (.slice none n' c')).run Try.prog w = .ok (.bool a.isNone) w := fun w a n c n' c' => Lib.run_eql_slice_nil w _ _ a n c n' c' Try.underlying33
  go_enter Try.func105, Try.ntmps105
  go_wp2_with (at_builtin; refine wpList_append_own _ rfl _ _ 33 rfl w.heap.size 3 i0 (.int .i64 0) 1 8 Try.underlying33 hi hz0 hz1 hz2 rfl (by decide) (.slice (some ⟨w.heap.size, 0, none⟩) 0 0) 0 [] rfl (World.ownsRow_made w #[] 0 (Nat.le_refl _) (by unfold maxLen; omega) rfl) ⟨b, 0, none⟩ n cap (xs.map (Value.int .i64)) rfl ?c1 hxs.out ?c2 ?c3 ?c4 ?c5 ?_)
  case c1 => simp [HN.out]
  case c2 => intro u hu; simp only [List.mem_map] at hu; obtain ⟨x, _, rfl⟩ := hu; rfl
  case c3 => unfold maxLen; omega
  case c4 => omega
  case c5 => simp
  intro v' w1 hown' hgrow _
  have hw1 : Below w.heap.size w w1 := ((Below.refl _ w).alloc (Nat.le_refl _) _).grown hgrow (by simp) (fun j e => by cases e; exact Nat.le_refl _)
  have HO1 := Lib.hid (show w1.ownsRow w.heap.size 3 1 v' xs.length (xs.map (Value.int .i64)) from by rw [HN.out]; simpa using hown')
  clear hown' hgrow
  go_wp2
  go_ret
  exact ⟨_, rfl, fun h => over_of_own HO1.out h, hw1⟩
end Go.Proofs.Ytgjikoebneiamaa.Tb
namespace Go.Proofs.Ytgjikoebneiamaa.Tb
open Go.RowKit Go.Shelf

attribute [local go_sem] Oper.semAt_some

def ofF (xs : List (List Int)) (p : Nat) (b : Nat) : Bool := xs.any fun x => decide (nth x p = (b : Int))
theorem ofF_snoc (xs : List (List Int)) (x : List Int) (p b : Nat) : ofF (xs ++ [x]) p b = (ofF xs p b || decide (nth x p = (b : Int))) := by simp [ofF]
def ofS (S : Store) (p : Nat) : List Int := numsTo (ofF (truthsL S) p) 6
/-- A list of ints in new memory, and an error. -/
def GaveIntsE (xs : List Int) (err : Int) (w : World) (e : Ending) (w' : World) : Prop := ∃ v, e = .returned (.tuple #[v, .int .i64 err]) ∧ IntsAt w'.heap.size w' v xs ∧ Below w.heap.size w w'
theorem ints_nil (B : Nat) (w : World) : IntsAt B w (.slice none 0 0) [] := ⟨none, 0, 0, 0, rfl, by simp, by unfold maxLen; omega, fun h => by simp at h, fun i hi => by simp at hi, fun x hx => by cases hx⟩

end Go.Proofs.Ytgjikoebneiamaa.Tb
namespace Go.Proofs.Ytgjikoebneiamaa.Tb
open Go.RowKit Go.Shelf

attribute [local go_sem] Oper.semAt_some

def planF (o : Option (List Int)) (x : List Int) : Option (List Int) :=
  match o with
  | none => some x
  | some p => if usedS x < usedS p then some x else some p
def planL (xs : List (List Int)) : Option (List Int) := xs.foldl planF none
theorem planL_snoc (xs : List (List Int)) (x : List Int) : planL (xs ++ [x]) = planF (planL xs) x := by simp [planL]
def planS (S : Store) : List Int := (planL (truthsL S)).getD []
theorem planL_none {xs : List (List Int)} : planL xs = none ↔ xs.length = 0 := by
  rcases List.eq_nil_or_concat xs with rfl | ⟨ys, y, rfl⟩
  · simp [planL]
  · rw [List.concat_eq_append, planL_snoc]
    simp only [planF, List.length_append, List.length_cons, List.length_nil]
    constructor
    · intro h; split at h
      · cases h
      · split at h <;> cases h
    · intro h; omega

set_option maxHeartbeats 1000000 in
theorem clone_over (b n cap : Nat) (xs : List Int) (w : World) (hn : xs.length = n) (hc : ∀ i, i < xs.length → w.cell? ⟨b, i, none⟩ = some (.int .i64 (nth xs i))) (hlt0 : b < w.heap.size) (hl : n ≤ 100) (hw : ∀ x ∈ xs, I64 x) :
    Calls Try.prog 105 #[.slice (some ⟨b, 0, none⟩) n cap] w (fun e w' => ∃ rv, e = .returned rv ∧ IntsOver w.heap.size w' rv xs ∧ Below w.heap.size w w') :=
  (clone_any b n cap xs w hn hc hlt0 hl hw).mono fun _ _ ⟨rv, h1, h2, h3⟩ => ⟨rv, h1, h2 hw, h3⟩

/-- What the three variables hold. -/
def PlanAt (B1 B2 B3 lo : Nat) (o : Option (List Int)) (W : World) : Prop :=
  match o with
  | none => W.heap[B1]? = some (.cells #[.slice none 0 0] 33) ∧ W.heap[B2]? = some (.cells #[.int .i64 0] 3) ∧ W.heap[B3]? = some (.cells #[.bool false] 4)
  | some p => ∃ v, W.heap[B1]? = some (.cells #[v] 33) ∧ W.heap[B2]? = some (.cells #[.int .i64 (usedS p)] 3) ∧ W.heap[B3]? = some (.cells #[.bool true] 4) ∧ IntsOver lo W v p
theorem PlanAt.grown {B1 B2 B3 lo : Nat} {o : Option (List Int)} {w w' : World} {row : Option Nat} (h : PlanAt B1 B2 B3 lo o w) (hg : w.grownBy w' row) (hr : ∀ r, row = some r → r < lo ∧ r ≠ B1 ∧ r ≠ B2 ∧ r ≠ B3) : PlanAt B1 B2 B3 lo o w' := by
  have hk : ∀ {k : Nat} {ob : Obj}, w.heap[k]? = some ob → (k = B1 ∨ k = B2 ∨ k = B3) → w'.heap[k]? = some ob := fun ho hk =>
    (hg.block _ (Array.getElem?_eq_some_iff.1 ho).1 (fun e => by have := hr _ e.symm; omega)).trans ho
  cases o with
  | none => exact ⟨hk h.1 (.inl rfl), hk h.2.1 (.inr (.inl rfl)), hk h.2.2 (.inr (.inr rfl))⟩
  | some p =>
    obtain ⟨v, h1, h2, h3, h4⟩ := h
    exact ⟨v, hk h1 (.inl rfl), hk h2 (.inr (.inl rfl)), hk h3 (.inr (.inr rfl)), h4.grown hg (fun r e => (hr r e).1)⟩
theorem plan_put {w : World} {B1 B2 B3 lo : Nat} {rv a b c : Value} {x : List Int} (h1 : w.heap[B1]? = some (.cells #[a] 33)) (h2 : w.heap[B2]? = some (.cells #[b] 3)) (h3 : w.heap[B3]? = some (.cells #[c] 4))
    (n12 : B1 ≠ B2) (n13 : B1 ≠ B3) (n23 : B2 ≠ B3) (hr : IntsOver lo w rv x) (hlo : B1 < lo ∧ B2 < lo ∧ B3 < lo) :
    PlanAt B1 B2 B3 lo (some x) (((w.setCell ⟨B1, 0, none⟩ rv).setCell ⟨B2, 0, none⟩ (.int .i64 (usedS x))).setCell ⟨B3, 0, none⟩ (.bool true)) := by
  refine ⟨rv, heap_set_other _ (heap_set_other _ (heap_set _ h1) n12) n13, heap_set_other _ (heap_set _ (heap_set_other _ h2 (Ne.symm n12))) n23, heap_set _ (heap_set_other _ (heap_set_other _ h3 (Ne.symm n13)) (Ne.symm n23)), ?_⟩
  exact ((hr.grown (grownBy_setCell' _ _ _) (fun r e => by cases e; exact hlo.1)).grown (grownBy_setCell' _ _ _) (fun r e => by cases e; exact hlo.2.1)).grown (grownBy_setCell' _ _ _) (fun r e => by cases e; exact hlo.2.2)
theorem okBars_six {S : Store} (hV : Valid S) {x : List Int} (h : OkBars S x) : Hid (∀ i, i < x.length → 0 ≤ nth x i ∧ nth x i < 6) := fun i hi => by have := h.2 i hi; have := hV.nb; omega
theorem usedS_le {S : Store} (hV : Valid S) {x : List Int} (h : OkBars S x) : 0 ≤ usedS x ∧ usedS x ≤ 8 := by have := usedTo_le x x.length; have := h.1; have := hV.np; unfold usedS; omega

set_option maxRecDepth 100000 in
set_option maxHeartbeats 4000000 in
theorem Plan_in (F : Fence) (hF : Hid (F = Fence.wide)) (hd : F.depth = none) (hro : F.round = none) (hfn : ∀ f, F.fn f) (n : Nat) (hn : 5 ≤ n) (v : Value) (S : Store) (w : World) (hx : StoreAt w.heap.size w v S) (hV : Valid S) :
    CallsIn F n Try.prog 62 #[v] w (GaveIntsE (planS S) (errN (truthsL S).length) w) := by
  have hx' := hx
  obtain ⟨a, cap1, b1, off, a2, cap2, b2, off2, rfl, hm, hm2, HA, HC, HA2, HC2⟩ := hx.opened
  have HX := Lib.hid hx'
  have HV := Lib.hid hV
  obtain ⟨hw0, hw8⟩ := hV.wrong
  clear hx hx' hV HA HC HA2 HC2
  have HXB := fun o => Lib.hid ((HX.out.below ((Below.refl _ w).alloc (Nat.le_refl _) o)).mono (show w.heap.size ≤ (w.alloc o).heap.size by simp))
  have hmo : Try.prog.follows .mixedOrders = true := by kernel_rfl
  refine callsIn_of_wp_marks Try.func62 rfl (hfn _) ?_ hro
  simp only [Try.ntmps62, List.size_toArray, List.length_cons, List.length_nil, Nat.reduceAdd, Nat.reduceSub, Array.replicate_succ, Array.replicate_zero, List.push_toArray, List.append_toArray, List.nil_append, List.cons_append]
  gi_wp2_with fail
  refine (inF hF (check_ok (valid_iff.2 HV.out) (HXB _).out)).mono ?_
  rintro e w1 ⟨rfl, hb1⟩
  have hbl : Below (w.heap.size + 1) (w.alloc (.cells #[.slice a S.bars.length cap1, .int .i64 S.kerf, .slice a2 S.pieces.length cap2, .int .i64 S.wrong] 69)) w1 := hb1.mono (by simp)
  have hw := boxed hbl
  have hsz := boxed_size hbl
  obtain ⟨c0, c1, c2, c3⟩ := box4 hbl
  clear hb1
  have hlt1 : w.heap.size < w1.heap.size := by omega
  have hlt2 : w.heap.size < w1.heap.size + 1 := by omega
  have hlt3 : w.heap.size < w1.heap.size + 1 + 1 := by omega
  gi_wp2_with (gi_at_call 103; refine (inF hF (truths_any _ _ _ _ _ _ _ _ _)).mono ?_; rintro e w2 ⟨rfl, hb2, hs2, hq2⟩; have HB2 := Lib.hid hb2; have HS2 := Lib.hid hs2; have HQ2 := Lib.hid hq2; clear hb2 hs2 hq2)
  have hb2 := HB2.out
  have hs2 := HS2.out
  have hq2 := HQ2.out
  simp only [World.size_alloc] at hb2 hs2 hq2
  have hs2a : w1.heap.size + 6 ≤ w2.heap.size := by omega
  have hp2 := heap_at3 w1 (.cells #[.slice none 0 0] 33) (.cells #[.int .i64 0] 3) (.cells #[.bool false] 4)
  have hmp : PlanAt w1.heap.size (w1.heap.size + 1) (w1.heap.size + 2) (w2.heap.size + 3) (planL []) w2 :=
    ⟨(hb2.block w1.heap.size (by omega)).trans hp2.1, (hb2.block (w1.heap.size + 1) (by omega)).trans hp2.2.1, (hb2.block (w1.heap.size + 2) (by omega)).trans hp2.2.2⟩
  have h12 : Below w1.heap.size w1 w2 := (below_at3 w1 _ _ _).trans (hb2.mono (by omega))
  have hw2 : Below w.heap.size w w2 := hw.trans (h12.mono (by omega))
  clear hs2 hp2 hb2 c0 c1 c2 c3
  refine wpIn_saw F hF hd hro hfn (by omega) rfl w.heap.size _ S S.wrong HV hw0 hw8 (HX.out.below hw2) (by omega) hq2.1 hq2.2 rfl
    (fun k => k = w1.heap.size ∨ k = w1.heap.size + 1 ∨ k = w1.heap.size + 2) (fun k hk => by omega)
    (fun pre W => PlanAt w1.heap.size (w1.heap.size + 1) (w1.heap.size + 2) (w2.heap.size + 3) (planL pre) W) (fun _ _ _ => False)
    (fun s A A' row hs hg hr => hs.grown hg (fun r e => by have := hr r e; omega)) (fun _ _ _ _ _ h _ _ => h) hmp
    (fun tm x => { tmps := (tm.setIfInBounds 17 (.slice (some ⟨w2.heap.size + 2, 0, none⟩) x.length (capS S))).setIfInBounds 8 (.slice (some ⟨w2.heap.size + 2, 0, none⟩) x.length (capS S)), defers := [] }) ?assign ?body ?done ?stop
  case assign =>
    intro l x W K hK
    gi_wp2
    exact hK
  case body =>
    rintro l pre x W hpre hI hkb hbuf
    have hsz2 := hkb.size
    have hbW := hbuf.lt
    obtain ⟨hok, hxl⟩ := yielded_ok hpre
    have hins := yielded_ints HV.out hpre hbuf (B := W.heap.size) hbW
    obtain ⟨us0, us8⟩ := usedS_le HV.out hok
    have hcl := (capS_le HV.out).2
    have HI := Lib.hid hI
    have HINS := Lib.hid hins
    have HOK := Lib.hid hok
    have HXL := Lib.hid hxl
    have HBUF := Lib.hid hbuf
    have hxl8 : x.length ≤ 8 := by have := HV.out.np; omega
    clear hkb hI hins hok hpre hxl hbuf
    gi_wp2_with fail
    refine (CallsIn.inRound l (inF hF (used_any _ x _ (B := W.heap.size) (Nat.le_refl _) HINS.out (okBars_six HV.out HOK.out)))).mono ?_
    rintro e w3 ⟨rfl, hb3⟩
    have hs3 := hb3.size
    have hI3 : PlanAt w1.heap.size (w1.heap.size + 1) (w1.heap.size + 2) (w2.heap.size + 3) (planL pre) w3 := HI.out.grown (row := none) ⟨hb3.os, hb3.tape, hb3.output, hb3.size, fun k hk _ => hb3.block k hk⟩ (fun r e => by cases e)
    have hbuf3 := HBUF.out.kept (hb3.block _ hbW)
    have HK3 := Lib.hid (KeptBut.of_below (own := fun k => k = w1.heap.size ∨ k = w1.heap.size + 1 ∨ k = w1.heap.size + 2) hb3)
    clear hb3
    have hlt3 : w1.heap.size + 2 < w3.heap.size := by omega
    have hclone : Hid (Calls Try.prog 105 #[.slice (some ⟨w2.heap.size + 2, 0, none⟩) x.length (capS S)] w3 (fun e w' => ∃ rv, e = .returned rv ∧ IntsOver (w2.heap.size + 3) w' rv x ∧ Below w3.heap.size w3 w')) := by
      refine (clone_over _ x.length (capS S) x w3 rfl (fun i hi => hbuf3.cell hi) hbuf3.lt (by omega) (HOK.out.i64 HV.out)).mono ?_
      rintro e w' ⟨rv, h1, h2, h3⟩
      exact ⟨rv, h1, h2.mono (by omega), h3⟩
    cases hp : planL pre with
    | none =>
      rw [hp] at hI3
      obtain ⟨i1, i2, i3⟩ := hI3
      obtain ⟨j1, j2⟩ := cell1_of i1
      obtain ⟨j3, j4⟩ := cell1_of i2
      obtain ⟨j5, j6⟩ := cell1_of i3
      have HP := Lib.hid hp
      have I1 := Lib.hid i1
      have I2 := Lib.hid i2
      have I3 := Lib.hid i3
      clear hp i1 i2 i3 hbuf3
      gi_wp2_with fail
      refine (CallsIn.inRound l (inF hF hclone.out)).mono ?_
      rintro e w4 ⟨rv, rfl, hrv, hb4⟩
      obtain ⟨ra, rcap, rb, roff, rfl, rl, _⟩ := hrv.at.opened
      have i1 := (hb4.block w1.heap.size (by omega)).trans I1.out
      have i2 := (hb4.block (w1.heap.size + 1) (by omega)).trans I2.out
      have i3 := (hb4.block (w1.heap.size + 2) (by omega)).trans I3.out
      obtain ⟨j1, j2⟩ := cell1_of i1
      obtain ⟨j3, j4⟩ := cell1_of i2
      obtain ⟨j5, j6⟩ := cell1_of i3
      have hlt4 : w1.heap.size + 2 < w4.heap.size := by have := hb4.size; omega
      have I1 := Lib.hid i1
      have I2 := Lib.hid i2
      have I3 := Lib.hid i3
      have HB4 := Lib.hid hb4
      have HRV := Lib.hid hrv
      clear i1 i2 i3 hb4 hrv
      gi_wp2
      refine ⟨(HK3.out.trans (KeptBut.of_below HB4.out)).trans (((KeptBut.setCell _ _ _ (.inl rfl)).trans (KeptBut.setCell _ _ _ (.inr (.inl rfl)))).trans (KeptBut.setCell _ _ _ (.inr (.inr rfl)))), ?_⟩
      show PlanAt _ _ _ _ (planL (pre ++ [x])) _
      rw [planL_snoc, HP.out]
      exact plan_put I1.out I2.out I3.out (by omega) (by omega) (by omega) HRV.out (by omega)
    | some p =>
      rw [hp] at hI3
      obtain ⟨pv, i1, i2, i3, i4⟩ := hI3
      obtain ⟨pa, pcap, pb, poff, rfl, pl, _⟩ := i4.at.opened
      obtain ⟨j1, j2⟩ := cell1_of i1
      obtain ⟨j3, j4⟩ := cell1_of i2
      obtain ⟨j5, j6⟩ := cell1_of i3
      have HP := Lib.hid hp
      have I1 := Lib.hid i1
      have I2 := Lib.hid i2
      have I3 := Lib.hid i3
      have I4 := Lib.hid i4
      clear hp i1 i2 i3 i4 hbuf3
      by_cases hlu : usedS x < usedS p
      · gi_wp2_with fail
        refine (CallsIn.inRound l (inF hF hclone.out)).mono ?_
        rintro e w4 ⟨rv, rfl, hrv, hb4⟩
        obtain ⟨ra, rcap, rb, roff, rfl, rl, _⟩ := hrv.at.opened
        have i1 := (hb4.block w1.heap.size (by omega)).trans I1.out
        have i2 := (hb4.block (w1.heap.size + 1) (by omega)).trans I2.out
        have i3 := (hb4.block (w1.heap.size + 2) (by omega)).trans I3.out
        clear j1 j2 j3 j4 j5 j6
        obtain ⟨j1, j2⟩ := cell1_of i1
        obtain ⟨j3, j4⟩ := cell1_of i2
        obtain ⟨j5, j6⟩ := cell1_of i3
        have hlt4 : w1.heap.size + 2 < w4.heap.size := by have := hb4.size; omega
        have I1 := Lib.hid i1
        have I2 := Lib.hid i2
        have I3 := Lib.hid i3
        have HB4 := Lib.hid hb4
        have HRV := Lib.hid hrv
        clear i1 i2 i3 hb4 hrv
        gi_wp2
        refine ⟨(HK3.out.trans (KeptBut.of_below HB4.out)).trans (((KeptBut.setCell _ _ _ (.inl rfl)).trans (KeptBut.setCell _ _ _ (.inr (.inl rfl)))).trans (KeptBut.setCell _ _ _ (.inr (.inr rfl)))), ?_⟩
        show PlanAt _ _ _ _ (planL (pre ++ [x])) _
        rw [planL_snoc, HP.out]
        simp only [planF, if_pos hlu]
        exact plan_put I1.out I2.out I3.out (by omega) (by omega) (by omega) HRV.out (by omega)
      · gi_wp2
        refine ⟨HK3.out, ?_⟩
        show PlanAt _ _ _ _ (planL (pre ++ [x])) _
        rw [planL_snoc, HP.out]
        simp only [planF, if_neg (show ¬ usedS x < usedS p by omega)]
        exact ⟨_, I1.out, I2.out, I3.out, I4.out⟩
  case done =>
    rintro D W hD hkb hI hK
    have hfin : Below w.heap.size w (W.putObj D (.deferred none)) := (hw2.trans (hkb.below (by omega) (by omega))).trans (putObj_below _ _ (by omega))
    cases hp : planL (sawL S S.pieces.length S.wrong []) with
    | none =>
      rw [hp] at hI
      obtain ⟨i1, i2, i3⟩ := hI
      obtain ⟨j5, j6⟩ := cell1_of i3
      have HP := Lib.hid hp
      clear hp i1 i2 i3
      gi_wp2
      refine ⟨by simp, .inl ⟨_, _, rfl, run_takeDeferred hK, ?_⟩⟩
      have hz : (truthsL S).length = 0 := planL_none.1 HP.out
      have hpl : planS S = [] := by unfold planS truthsL; rw [HP.out]; rfl
      exact ⟨_, results_tmp2 rfl _ _ _, .slice none 0 0, by rw [hz]; rfl, by rw [hpl]; exact ints_nil _ _, hfin⟩
    | some p =>
      rw [hp] at hI
      obtain ⟨pv, i1, i2, i3, i4⟩ := hI
      obtain ⟨pa, pcap, pb, poff, rfl, pl, _⟩ := i4.at.opened
      obtain ⟨j1, j2⟩ := cell1_of i1
      obtain ⟨j5, j6⟩ := cell1_of i3
      have HP := Lib.hid hp
      have I4 := Lib.hid i4
      clear hp i1 i2 i3 i4
      gi_wp2
      refine ⟨by simp, .inl ⟨_, _, rfl, run_takeDeferred hK, ?_⟩⟩
      have hz : (truthsL S).length ≠ 0 := fun h => by have := planL_none.2 h; unfold truthsL at this; rw [HP.out] at this; cases this
      have hpl : planS S = p := by unfold planS truthsL; rw [HP.out]; rfl
      exact ⟨_, results_tmp2 rfl _ _ _, .slice pa p.length pcap, by rw [errN_pos hz]; rfl, by rw [hpl, World.putObj_size]; exact ints_putObj I4.out.at hK, hfin⟩
  case stop =>
    rintro D c pre W _ _ _ h _
    exact h.elim

def leastS (S : Store) : Int := usedS (planS S)

/-- A contract over the wide fence is a plain one. -/
theorem wide_calls {P : Program} {f : FuncId} {args : Array Value} {w : World} {R : Ending → World → Prop} (h : CallsIn Fence.wide 9 P f args w R) : Calls P f args w R := callsIn_wide.1 h

theorem Plan_any (v : Value) (S : Store) (w : World) (hx : StoreAt w.heap.size w v S) (hV : Valid S) :
    Calls Try.prog 62 #[v] w (GaveIntsE (planS S) (errN (truthsL S).length) w) :=
  wide_calls (Plan_in Fence.wide rfl rfl rfl (fun _ => trivial) 9 (by omega) v S w hx hV)

theorem foldl_mem {x : List Int} : ∀ (xs : List (List Int)) (o : Option (List Int)) , xs.foldl planF o = some x → (x ∈ xs ∨ o = some x)
  | [], o, h => .inr h
  | y :: ys, o, h => by
    rw [List.foldl_cons] at h
    rcases foldl_mem ys _ h with h1 | h1
    · exact .inl (List.mem_cons_of_mem _ h1)
    · cases o with
      | none => simp only [planF, Option.some.injEq] at h1; subst h1; exact .inl (List.mem_cons_self ..)
      | some p =>
        simp only [planF] at h1
        split at h1
        · simp only [Option.some.injEq] at h1; subst h1; exact .inl (List.mem_cons_self ..)
        · exact .inr h1
theorem planS_ok {S : Store} (h : (truthsL S).length ≠ 0) : planS S ∈ truthsL S := by
  unfold planS
  cases hp : planL (truthsL S) with
  | none => exact absurd (planL_none.1 hp) h
  | some p =>
    rcases foldl_mem _ _ hp with h1 | h1
    · exact h1
    · cases h1
theorem truths_ok {S : Store} {x : List Int} (h : x ∈ truthsL S) : OkBars S x ∧ x.length = S.pieces.length :=
  sawL_okBars _ _ _ (by simp) ⟨by simp, fun i hi => by simp at hi⟩ x h

set_option maxHeartbeats 1000000 in
theorem Least_any (v : Value) (S : Store) (w : World) (hx : StoreAt w.heap.size w v S) (hV : Valid S) :
    Calls Try.prog 63 #[v] w fun e w' => e = .returned (.tuple #[.int .i64 (leastS S), .int .i64 (errN (truthsL S).length)]) ∧ Below w.heap.size w w' := by
  have hx' := hx
  obtain ⟨a, cap1, b1, off, a2, cap2, b2, off2, rfl, hm, hm2, HA, HC, HA2, HC2⟩ := hx.opened
  have HXB := fun o => Lib.hid ((hx'.below ((Below.refl _ w).alloc (Nat.le_refl _) o)).mono (show w.heap.size ≤ (w.alloc o).heap.size by simp))
  have HV := Lib.hid hV
  clear hx hx' hV HA HC HA2 HC2
  by_cases hz : (truthsL S).length = 0
  · have hpl : planS S = [] := by unfold planS; rw [planL_none.2 hz]; rfl
    have hl : leastS S = 0 := by unfold leastS; rw [hpl]; rfl
    have HE := Lib.hid (show errN (truthsL S).length = 3 by rw [hz]; rfl)
    have HL := Lib.hid hl
    have HP := Lib.hid hpl
    clear hz hpl hl
    go_enter Try.func63, Try.ntmps63
    go_wp2_with fail
    refine (Plan_any _ S _ (HXB _).out HV.out).mono ?_
    rintro e w1 ⟨pv, rfl, hpv, hb⟩
    rw [HE.out]
    have HB := Lib.hid hb
    clear hb
    rw [HP.out] at hpv
    obtain ⟨pa, pcap, pb, poff, rfl, pl, _⟩ := hpv.opened
    clear hpv
    go_wp2
    go_ret2
    exact ⟨by rw [HL.out, HE.out]; rfl, ((Below.refl _ _).alloc (Nat.le_refl _) _).trans (HB.out.mono (by simp))⟩
  · have HE := Lib.hid (show errN (truthsL S).length = 0 from errN_pos hz)
    have hok := (truths_ok (planS_ok hz)).1
    have HOK := Lib.hid hok
    clear hz hok
    go_enter Try.func63, Try.ntmps63
    go_wp2_with fail
    refine (Plan_any _ S _ (HXB _).out HV.out).mono ?_
    rintro e w1 ⟨pv, rfl, hpv, hb⟩
    rw [HE.out]
    have HB := Lib.hid hb
    clear hb
    have HPV := Lib.hid hpv
    obtain ⟨pa, pcap, pb, poff, rfl, pl, _⟩ := hpv.opened
    clear hpv
    go_wp2_with fail
    refine (used_any _ (planS S) _ (B := w1.heap.size) (Nat.le_refl _) HPV.out (okBars_six HV.out HOK.out)).mono ?_
    rintro e w2 ⟨rfl, hb2⟩
    have HB2 := Lib.hid hb2
    clear hb2
    go_wp2
    go_ret2
    exact ⟨by rw [HE.out]; rfl, ((Below.refl _ _).alloc (Nat.le_refl _) _).trans ((HB.out.trans (HB2.out.mono HB.out.size)).mono (by simp))⟩
end Go.Proofs.Ytgjikoebneiamaa.Tb
namespace Go.Proofs.Ytgjikoebneiamaa.Tb
open Go.RowKit Go.Shelf

attribute [local go_sem] Oper.semAt_some

def anyB (q : List Int → Bool) (xs : List (List Int)) : Bool := xs.any q
theorem anyB_snoc (q : List Int → Bool) (xs : List (List Int)) (x : List Int) : anyB q (xs ++ [x]) = (anyB q xs || q x) := by simp [anyB]
theorem anyB_prefix {q : List Int → Bool} {pre xs : List (List Int)} (h : pre <+: xs) (hp : anyB q pre = true) : anyB q xs = true := by
  simp only [anyB, List.any_eq_true] at *
  obtain ⟨x, hx, hq⟩ := hp
  exact ⟨x, h.subset hx, hq⟩
def knownV (q : List Int → Bool) (xs : List (List Int)) : Int × Int :=
  if anyB q xs = true then (if anyB (fun x => !q x) xs = true then (3, 0) else (1, 0))
  else if anyB (fun x => !q x) xs = true then (2, 0) else (0, 3)
theorem knownV_nn {q : List Int → Bool} {S : Store} (h1 : anyB q (sawL S S.pieces.length S.wrong []) = false) (h2 : anyB (fun x => !q x) (sawL S S.pieces.length S.wrong []) = false) : knownV q (truthsL S) = (0, 3) := by
  unfold knownV truthsL; rw [h1, h2]; rfl
theorem knownV_ny {q : List Int → Bool} {S : Store} (h1 : anyB q (sawL S S.pieces.length S.wrong []) = false) (h2 : anyB (fun x => !q x) (sawL S S.pieces.length S.wrong []) = true) : knownV q (truthsL S) = (2, 0) := by
  unfold knownV truthsL; rw [h1, h2]; rfl
theorem knownV_yn {q : List Int → Bool} {S : Store} (h1 : anyB q (sawL S S.pieces.length S.wrong []) = true) (h2 : anyB (fun x => !q x) (sawL S S.pieces.length S.wrong []) = false) : knownV q (truthsL S) = (1, 0) := by
  unfold knownV truthsL; rw [h1, h2]; rfl
theorem knownV_yy {q : List Int → Bool} {S : Store} (h1 : anyB q (sawL S S.pieces.length S.wrong []) = true) (h2 : anyB (fun x => !q x) (sawL S S.pieces.length S.wrong []) = true) : knownV q (truthsL S) = (3, 0) := by
  unfold knownV truthsL; rw [h1, h2]; rfl

end Go.Proofs.Ytgjikoebneiamaa.Tb
namespace Go.Proofs.Ytgjikoebneiamaa.Tb
open Go.RowKit Go.Shelf

def roomV (S : Store) (long : Int) : Int × Int := knownV (fun x => roomB S x long) (truthsL S)

end Go.Proofs.Ytgjikoebneiamaa.Tb