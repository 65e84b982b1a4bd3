/-
  Levers: iterators whose callers write only blocks that lay there when the loop began.
  The facts' law for a drawn region inside a fence.
-/
import Derived.Test.YtomcjopcfdllgaaVSrc
import Derived.Test.YtomcjopcfdllgaaVFactsK
import Derived.OrdersIn
import Derived.TacticsIn

namespace Go.Proofs.Ytomcjopcfdllgaa
open Go.RowKit

/-- The contract of an iterator that hands over values in blocks of its own: the heap's size at the call, and some more. -/
def SeqB {α : Type} (F : Fence) (n : Nat) (P : Program) (g : Nat) (ba lb : Array Value) (cs : List Nat) (_sp : Nat) (enc : Nat → α → Value) (At : Nat → α → World → Prop) (xs : List α) (ok : Nat → Prop) (w0 : World) : Prop :=
  ∀ (l : Nat) (own : Nat → Prop) (J Jx : List α → World → Prop) (W : World), Below w0.heap.size w0 W →
    (∀ k, own k → k < W.heap.size ∧ ¬ ok k) →
    (∀ s A B, J s A → KeptBut (fun j => ∃ c ∈ cs, j = W.heap.size + c) A B → J s B) → (∀ s A B, Jx s A → KeptBut (fun j => ∃ c ∈ cs, j = W.heap.size + c) A B → Jx s B) →
    (∀ pre x W1, pre ++ [x] <+: xs → J pre W1 → (∀ c ∈ cs, W.heap.size + c < W1.heap.size) → At W.heap.size x W1 →
      YieldAt F (n - 1) P l #[enc W.heap.size x] W1 fun e W' =>
        (e = .returned (.bool true) ∧ J (pre ++ [x]) W' ∧ KeptBut own W1 W') ∨ (e = .returned (.bool false) ∧ Jx (pre ++ [x]) W' ∧ KeptBut own W1 W')) →
    J [] W →
    CallsIn F n P g (ba ++ #[.func (.yield l) #[] #[]] ++ lb) W fun e W' => (∃ v, e = .returned v) ∧ KeptBut own W W' ∧ (J xs W' ∨ ∃ pre, pre <+: xs ∧ Jx pre W')

variable {F : Fence} {n : Nat} {P : Program}

theorem wpIn_rangeFunc_B {α : Type} {g : Operand} {ps : Array Tmp} {assign body : Code} {Q : Exit → Act → World → Prop} {a : Act} {w : World}
    (hro : F.round = none) (h1 : 1 ≤ n) {gf : Nat} {ba lb : Array Value} (hg : a.eval g = .func (.func gf) ba lb) (hFg : F.fn gf) (eg : ∀ args w, (callFunc gf args).run P w = .ok (.enter gf args) w)
    {cs : List Nat} {sp : Nat} {enc : Nat → α → Value} {At : Nat → α → World → Prop} {xs : List α} {ok : Nat → Prop} {w0 : World} (hseq : SeqB F (n - 1) P gf ba lb cs sp enc At xs ok w0)
    (hb0 : Below w0.heap.size w0 w) (hps : ps.size = 1)
    (own : Nat → Prop) (hown : ∀ k, own k → k < w.heap.size ∧ ¬ ok k) (hok : ∀ k, ok k → k < w.heap.size)
    (hAt : ∀ x A B, At (w.heap.size + 2) x A → KeptBut (fun j => j = w.heap.size + 1) A B → At (w.heap.size + 2) x B)
    (I : List α → World → Prop) (Ix : Code → List α → World → Prop) (hI : OwnAt w.heap.size cs I) (hIx : ∀ d, OwnAt w.heap.size cs (Ix d)) (h0 : I [] w) (a₁ : World → α → Act) (g₁ : World → α → World) (hg₁ : ∀ W x, Below W.heap.size W (g₁ W x))
    (hassign : ∀ (l : Nat) (x : α) (W : World) (K : Act → World → Prop), K (a₁ W x) (g₁ W x) →
      assign.wpIn (F.inRound l) (n - 1 - 1) P (Exit.then K (fun _ _ _ => False)) { tmps := (ps.zip #[enc (w.heap.size + 2) x]).foldl (fun t (p, v) => t.setIfInBounds p v) a.tmps, defers := [] } W)
    (hbody : ∀ (l : Nat) (pre : List α) (x : α) (V W : World), pre ++ [x] <+: xs → I pre W → KeptBut own w W → (∀ c ∈ cs, w.heap.size + 2 + c < W.heap.size) → At (w.heap.size + 2) x W → w.heap.size + 2 ≤ V.heap.size → KeptBut (fun j => j = w.heap.size + 1) (g₁ V x) W →
      body.wpIn (F.inRound l) (n - 1 - 1) P (postY own I Ix (pre ++ [x]) W) (a₁ V x) W)
    (hdone : ∀ (D : Nat) (W : World), D = w.heap.size → KeptBut own w W → I xs W → W.heap[D]? = some (.deferred (some [])) → Q .normal { a with defers := { target := .collected D, args := #[] } :: a.defers } W)
    (hstop : ∀ (D : Nat) (d : Code) (pre : List α) (W : World), D = w.heap.size → KeptBut own w W → pre <+: xs → Ix d pre W → W.heap[D]? = some (.deferred (some [])) → d.wpIn F n P Q { a with defers := { target := .collected D, args := #[] } :: a.defers } W) :
    (Code.rangeFunc g ps assign body).wpIn F n P Q a w := by
  refine wpIn_rangeFunc ?_
  intro fn hfn
  rw [hro]
  obtain ⟨rec, hrec⟩ : ∃ rec : LoopState → Option Code → Loop, rec = fun st pe => { state := st, pending := pe, fn, tmps := a.tmps, params := ps, assign, body, defers := w.heap.size } := ⟨_, rfl⟩
  obtain ⟨W1, hW1⟩ : ∃ W1, (w.alloc (.deferred (some []))).alloc (.loop (rec .ready none)) = W1 := ⟨_, rfl⟩
  have hL1 : W1.heap[w.heap.size + 1]? = some (.loop (rec .ready none)) := by
    rw [← hW1]; have := World.alloc_heap_new (w.alloc (.deferred (some []))) (.loop (rec .ready none)); rwa [World.size_alloc] at this
  have hK1 : W1.heap[w.heap.size]? = some (.deferred (some [])) := by
    rw [← hW1]; exact (Below.heap_alloc _ _ _ (by simp)).trans (World.alloc_heap_new w _)
  have hsz1 : W1.heap.size = w.heap.size + 2 := by rw [← hW1]; simp
  have hI1 : I [] W1 := by rw [← hW1]; exact hI.alloc _ (hI.alloc _ h0)
  have hbw : Below w.heap.size w W1 := by rw [← hW1]; exact ((Below.refl _ w).alloc (Nat.le_refl _) _).alloc (by simp) _
  have hb1 : Below w0.heap.size w0 W1 := hb0.trans (hbw.mono hb0.size)
  refine ⟨w.heap.size + 1, [{ target := .collected w.heap.size, args := #[] }], W1, { target := .fn (.func gf) lb, args := ba ++ #[.func (.yield (w.heap.size + 1)) #[] #[]] }, W1, gf,
    ba ++ #[.func (.yield (w.heap.size + 1)) #[] #[]] ++ lb, W1, ?_, ?_, ?_, ?_, fun _ => h1, ?_⟩
  · rw [← hW1, hrec]; exact run_enterLoop_outer _ _ _ _ _
  · simp only [resolve, hg]
    simp [go_sem]
  · intro f' hf'; simp [Target.leads] at hf'; subst hf'; exact hFg
  · simp [invoke, go_sem, eg]
  · -- the iterator's contract, at the caller's invariant with the book-keeping beside it
    have hkw : ∀ {A B : World} {k : Nat} {o : Obj}, KeptBut (fun j => ∃ c ∈ cs, j = W1.heap.size + c) A B → k < w.heap.size + 2 → A.heap[k]? = some o → B.heap[k]? = some o := fun hg' hk ho =>
      (hg'.block _ (Array.getElem?_eq_some_iff.1 ho).1 (fun ⟨c, _, e⟩ => by omega)).trans ho
    have hkept : ∀ {W : World}, KeptBut (fun k => own k ∨ k = w.heap.size + 1) W1 W → KeptBut own w W := fun h =>
      ⟨h.os.trans hbw.os, h.tape.trans hbw.tape, h.output.trans hbw.output, Nat.le_trans hbw.size h.size, fun k hk ho =>
        (h.block k (by omega) (by rintro (h | h); exact ho h; omega)).trans (hbw.block k hk)⟩
    have hkg : ∀ {A B : World}, KeptBut (fun k => own k ∨ k = w.heap.size + 1) W1 A → KeptBut (fun j => ∃ c ∈ cs, j = W1.heap.size + c) A B → KeptBut (fun k => own k ∨ k = w.heap.size + 1) W1 B := fun h hg' =>
      ⟨hg'.os.trans h.os, hg'.tape.trans h.tape, hg'.output.trans h.output, Nat.le_trans h.size hg'.size, fun k hk ho =>
        (hg'.block k (Nat.lt_of_lt_of_le hk h.size) (fun ⟨c, _, e⟩ => by omega)).trans (h.block k hk ho)⟩
    have hrow : ∀ {A B : World}, KeptBut (fun j => ∃ c ∈ cs, j = W1.heap.size + c) A B → KeptBut (fun r => r = w.heap.size ∨ r = w.heap.size + 1 ∨ ∃ c ∈ cs, r = w.heap.size + 2 + c) A B := fun h =>
      h.mono (fun k _ ⟨c, hc, e⟩ => .inr (.inr ⟨c, hc, by omega⟩))
    refine (hseq (w.heap.size + 1) (fun k => own k ∨ k = w.heap.size + 1)
      (fun pre W => I pre W ∧ W.heap[w.heap.size + 1]? = some (.loop (rec .ready none)) ∧ W.heap[w.heap.size]? = some (.deferred (some [])) ∧ KeptBut (fun k => own k ∨ k = w.heap.size + 1) W1 W)
      (fun pre W => ∃ d, Ix d pre W ∧ W.heap[w.heap.size + 1]? = some (.loop (rec .done (some d))) ∧ W.heap[w.heap.size]? = some (.deferred (some [])) ∧ KeptBut (fun k => own k ∨ k = w.heap.size + 1) W1 W)
      W1 hb1
      (fun k hk => by
        rcases hk with h | h
        · exact ⟨by have := (hown k h).1; omega, (hown k h).2⟩
        · exact ⟨by omega, fun h' => by have := hok k h'; omega⟩)
      (fun s A B hs hg' => ⟨hI s A B hs.1 (hrow hg'), hkw hg' (by omega) hs.2.1, hkw hg' (by omega) hs.2.2.1, hkg hs.2.2.2 hg'⟩)
      (fun s A B hs hg' => by
        obtain ⟨d, hd, hl, hk, hkb⟩ := hs
        exact ⟨d, hIx d s A B hd (hrow hg'), hkw hg' (by omega) hl, hkw hg' (by omega) hk, hkg hkb hg'⟩)
      ?_ ⟨hI1, hL1, hK1, KeptBut.refl _ _⟩).mono ?_
    · -- one round
      rintro pre x W hpre ⟨hi, hl, hk, hkb⟩ hlenW hat
      rw [hsz1] at hat ⊢
      have hlenW : ∀ c ∈ cs, w.heap.size + 2 + c < W.heap.size := fun c hc => by have := hlenW c hc; omega
      have hlt : w.heap.size + 1 < W.heap.size := (Array.getElem?_eq_some_iff.1 hl).1
      have hy := run_yield (P := P) (args := #[enc (w.heap.size + 2) x]) hl (by rw [hrec]; simp [hps])
      rw [hrec] at hy
      have hbg := hg₁ W x
      obtain ⟨W1', hW1'⟩ : ∃ W1', g₁ W x = W1' := ⟨_, rfl⟩
      rw [hW1'] at hbg
      have hl1 : W1'.heap[w.heap.size + 1]? = some (.loop (rec .ready none)) := (hbg.block _ hlt).trans hl
      have hlt1 : w.heap.size + 1 < W1'.heap.size := Nat.lt_of_lt_of_le hlt hbg.size
      refine ⟨fn, _, assign, body, hy, roundIn_of_wpIn hfn (hassign _ x W _ ⟨_, by rw [hW1']; exact run_beginRound hl1 (by rw [hrec]), ?_⟩)⟩
      obtain ⟨W2, hW2⟩ : ∃ W2, W1'.putObj (w.heap.size + 1) (.loop { rec .ready none with state := .busy }) = W2 := ⟨_, rfl⟩
      have hl2 : W2.heap[w.heap.size + 1]? = some (.loop { rec .ready none with state := .busy }) := hW2 ▸ World.putObj_heap_same hlt1
      have hk2 : W2.heap[w.heap.size]? = some (.deferred (some [])) := hW2 ▸ (World.putObj_heap_other (by omega)).trans ((hbg.block _ (by omega)).trans hk)
      have hkp1 : KeptBut (fun k => k = w.heap.size + 1) W1' W2 := hW2 ▸ KeptBut.putObj _ _ _ rfl
      have hkp2 : KeptBut (fun k => own k ∨ k = w.heap.size + 1) W W2 := (KeptBut.of_below hbg).trans (hkp1.mono (fun _ _ h => .inr h))
      have hi2 : I pre W2 := hW2 ▸ hI.putObj _ (hI _ _ _ hi (KeptBut.of_below hbg)) (.inr rfl)
      have hat2 : At (w.heap.size + 2) x W2 := hAt x W W2 hat ((KeptBut.of_below hbg).trans hkp1)
      rw [hW2]
      have hsW : w.heap.size + 2 ≤ W.heap.size := by omega
      refine wpIn_mono (hbody _ pre x W W2 hpre hi2 (hkept (hkb.trans hkp2)) (fun c hc => Nat.lt_of_lt_of_le (hlenW c hc) hkp2.size) hat2 hsW (by rw [hW1']; exact hkp1)) ?_
      have hlt2 : w.heap.size + 1 < W2.heap.size := (Array.getElem?_eq_some_iff.1 hl2).1
      have fin : ∀ (jump : Option Code) (W3 : World), KeptBut own W2 W3 →
          (Instr.endRound (w.heap.size + 1) jump).run P W3 = .ok (.bool jump.isNone) (W3.putObj (w.heap.size + 1) (.loop (rec (if jump.isNone then .ready else .done) jump))) ∧
          (W3.putObj (w.heap.size + 1) (.loop (rec (if jump.isNone then .ready else .done) jump))).heap[w.heap.size + 1]? = some (.loop (rec (if jump.isNone then .ready else .done) jump)) ∧
          (W3.putObj (w.heap.size + 1) (.loop (rec (if jump.isNone then .ready else .done) jump))).heap[w.heap.size]? = some (.deferred (some [])) ∧
          KeptBut (fun k => own k ∨ k = w.heap.size + 1) W (W3.putObj (w.heap.size + 1) (.loop (rec (if jump.isNone then .ready else .done) jump))) := fun jump W3 hk3 => by
        have hl3 := (hk3.block (w.heap.size + 1) hlt2 (fun h => by have := (hown _ h).1; omega)).trans hl2
        have hkk3 := (hk3.block (w.heap.size) (by omega) (fun h => by have := (hown _ h).1; omega)).trans hk2
        have := run_endRound (P := P) jump hl3
        rw [hrec] at this ⊢
        exact ⟨this, World.putObj_heap_same (Array.getElem?_eq_some_iff.1 hl3).1, (World.putObj_heap_other (by omega)).trans hkk3,
          (hkp2.trans (hk3.mono (fun k _ h => .inl h))).trans (KeptBut.putObj _ _ _ (.inr rfl))⟩
      rintro e a3 W3 hp
      cases e with
      | normal =>
        obtain ⟨hk3, hi3⟩ := hp
        obtain ⟨hr, hl4, hk4, hkp4⟩ := fin none W3 hk3
        exact ⟨_, _, hr, .inl ⟨rfl, ⟨hI.putObj _ hi3 (.inr rfl), hl4, hk4, hkb.trans (hkp4.mono (fun k _ h => h))⟩, hkp4⟩⟩
      | ret =>
        obtain ⟨hk3, hi3⟩ := hp
        obtain ⟨hr, hl4, hk4, hkp4⟩ := fin (some .ret) W3 hk3
        exact ⟨_, _, hr, .inr ⟨rfl, ⟨.ret, (hIx _).putObj _ hi3 (.inr rfl), hl4, hk4, hkb.trans hkp4⟩, hkp4⟩⟩
      | exit id =>
        obtain ⟨hk3, hi3⟩ := hp
        obtain ⟨hr, hl4, hk4, hkp4⟩ := fin (some (.exit id)) W3 hk3
        exact ⟨_, _, hr, .inr ⟨rfl, ⟨.exit id, (hIx _).putObj _ hi3 (.inr rfl), hl4, hk4, hkb.trans hkp4⟩, hkp4⟩⟩
      | goto t =>
        obtain ⟨hk3, hi3⟩ := hp
        obtain ⟨hr, hl4, hk4, hkp4⟩ := fin (some (.goto t)) W3 hk3
        exact ⟨_, _, hr, .inr ⟨rfl, ⟨.goto t, (hIx _).putObj _ hi3 (.inr rfl), hl4, hk4, hkb.trans hkp4⟩, hkp4⟩⟩
      | panic ch => exact hp.elim
      | outgrown => exact hp.elim
    · -- behind the iterator
      rintro e W2 ⟨⟨v, rfl⟩, _, (⟨hi, hl, hk, hkb⟩ | ⟨pre, hSp, d, hi, hl, hk, hkb⟩)⟩
      · exact ⟨none, _, by have := run_endLoop (P := P) hl (by rw [hrec]; simp); rw [hrec] at this; exact this,
          hdone _ _ rfl (hkept (hkb.trans (KeptBut.putObj _ _ _ (.inr rfl)))) (hI.putObj _ hi (.inr rfl)) ((World.putObj_heap_other (by omega)).trans hk)⟩
      · exact ⟨some d, _, by have := run_endLoop (P := P) hl (by rw [hrec]; simp); rw [hrec] at this; exact this,
          hstop _ d pre _ rfl (hkept (hkb.trans (KeptBut.putObj _ _ _ (.inr rfl)))) hSp ((hIx d).putObj _ hi (.inr rfl)) ((World.putObj_heap_other (by omega)).trans hk)⟩


theorem inF {F : Fence} (hF : Hid (F = Fence.wide)) {n : Nat} {P : Program} {f : FuncId} {args : Array Value} {w : World} {R : Ending → World → Prop} (h : Calls P f args w R) : CallsIn F n P f args w R := by
  have := hF.out
  subst this
  exact callsIn_wide.2 h
theorem room_free {F : Fence} (hd : F.depth = none) (k : Nat) : F.room k := fun d h => by rw [hd] at h; cases h
theorem round_free {F : Fence} (hd : F.depth = none) {m m' : Nat} {P : Program} {l : Nat} {f : FuncId} {tmps : Array Value} {assign body : Code} {w : World} {R : Ending → World → Prop}
    (h : RoundIn F m P l f tmps assign body w R) : RoundIn F m' P l f tmps assign body w R := ⟨h.1, fun c cs _ => h.2 c cs (room_free hd _)⟩
theorem yield_free {F : Fence} (hd : F.depth = none) {m : Nat} (m' : Nat) {P : Program} {l : Nat} {args : Array Value} {W : World} {R : Ending → World → Prop} (h : YieldAt F m P l args W R) : YieldAt F m' P l args W R := by
  obtain ⟨fn, tmps, assign, body, hy, hR⟩ := h
  exact ⟨fn, tmps, assign, body, hy, round_free hd hR⟩

theorem cell1_of {w : World} {b : Nat} {v : Value} {t : TypeId} (e : w.heap[b]? = some (.cells #[v] t)) : w.cell? ⟨b, 0, none⟩ = some v ∧ w.frozen? ⟨b, 0, none⟩ = false := by
  refine ⟨?_, ?_⟩ <;> simp [World.cell?, World.frozen?, e]
theorem putObj_below {B : Nat} (W : World) {D : Nat} (o : Obj) (h : B ≤ D) : Below B W (W.putObj D o) :=
  ⟨rfl, rfl, rfl, by simp, fun k hk => World.putObj_heap_other (by omega)⟩
theorem kept_put {own : Nat → Prop} {w W : World} (h : KeptBut own w W) {D : Nat} (o : Obj) (hD : w.heap.size ≤ D) : KeptBut own w (W.putObj D o) :=
  ⟨h.os, h.tape, h.output, by simpa using h.size, fun k hk ho => (World.putObj_heap_other (by omega)).trans (h.block k hk ho)⟩
theorem filter_snoc_yes {α : Type} {p : α → Bool} {pre : List α} {x : α} (h : p x = true) : (pre ++ [x]).filter p = pre.filter p ++ [x] := by simp [h]
theorem filter_snoc_no {α : Type} {p : α → Bool} {pre : List α} {x : α} (h : p x = false) : (pre ++ [x]).filter p = pre.filter p := by simp [h]
theorem filter_prefix {α : Type} (p : α → Bool) {a b : List α} (h : a <+: b) : a.filter p <+: b.filter p := by
  obtain ⟨c, rfl⟩ := h
  rw [List.filter_append]; exact List.prefix_append _ _


end Go.Proofs.Ytomcjopcfdllgaa

namespace Go.Proofs.Ytomcjopcfdllgaa
open Go.RowKit

section
variable {F : Fence} {N : Nat} {P : Program} {ops : Array Oper} {Q : Exit → Act → World → Prop}

theorem wpOpIn_at {i : Nat} {o : Oper} {K : Act → World → Prop} {a : Act} {w w' : World} {n : Next} (hfn : ∀ f, F.fn f) (hnd : ∀ c, o.op ≠ .defer c) (ho : ops[i]? = some o) (hg : o.guard = none)
    (h : (execOp a.eval o).run P w = .ok n w') (hk : o.uponIn F N P a K Q (.ok n w')) : wpOpIn F N P ops Q i K a w := by
  unfold wpOpIn
  simp only [ho]
  rw [if_pos (by simp [Region.wanted, hg])]
  exact ⟨fun f _ => hfn f, by rw [Oper.semAt_eq _ _ _ hnd, h]; exact hk⟩

variable {ps : List Fact} {n : Nat} {ds : List Nat} {a0 : Act} {w : World}

theorem wpAnyIn_facts (m2 : Nat) (hn : ds.length = n) (hsz : n ≤ ops.size) (hwt : waitsB .any ops n = true) (hnd : ds.Nodup) (hlt : ∀ d ∈ ds, d < a0.tmps.size)
    (hstep : ∀ i a W d, i < n → ds[i]? = some d → Below w.heap.size w W → (∀ t, t ∉ ds → a.eval (.tmp t) = a0.eval (.tmp t)) →
      (∀ j e, (depsOf .any ops i).contains j = true → ds[j]? = some e → factAt ps j (a.eval (.tmp e)) W) →
      wpOpIn F N P ops Q i (fun a' W' => ∃ v, a' = a.put (some d) v ∧ Below W.heap.size W W' ∧ factAt ps i v W') a W)
    (hrest : ∀ listed a W, FactsI ops ps n ds a0 w listed a W → (∀ i, i < n → listed.getD i false = true) → wpAnyIn F N P .any ops Q m2 listed a W) :
    ∀ (m : Nat) (listed : Array Bool) (a : Act) (W : World), unl listed n = m → FactsI ops ps n ds a0 w listed a W → wpAnyIn F N P .any ops Q (m + m2) listed a W
  | 0, listed, a, W, hu, hI => by
    rw [Nat.zero_add]
    exact hrest listed a W hI (unl_zero hu)
  | m + 1, listed, a, W, hu, hI => by
    simp only [waitsB, Bool.and_eq_true, List.all_eq_true, decide_eq_true_eq, List.mem_range, List.mem_range'_1] at hwt
    rw [Nat.succ_add]
    refine ⟨fun h0 => ?_, fun i hi => ?_⟩
    · obtain ⟨i, h1, h2, h3⟩ := unl_some (listed := listed) (k := n) (by omega)
      have hio : i < ops.size := by omega
      have : i ∈ Region.ready .any ops listed := mem_ready.2 ⟨by
        have hil : i < listed.size := by rw [hI.sz]; exact hio
        simp only [Array.getD, hil, dif_pos] at h2 ⊢
        exact h2, ops[i], Array.getElem?_eq_getElem hio, fun e he hb => h3 _ (hwt.1 i h1 _ ((mem_depsOf (Array.getElem?_eq_getElem hio)).2 ⟨e, he, hb, rfl⟩))⟩
      rw [h0] at this
      cases this
    · obtain ⟨hun, o, ho, hdep⟩ := mem_ready.1 hi
      have hio : i < ops.size := (Array.getElem?_eq_some_iff.1 ho).1
      have hil : i < listed.size := by rw [hI.sz]; exact hio
      have hun' : listed.getD i false = false := by
        simp only [Array.getD, hil, dif_pos] at hun ⊢
        exact hun
      have hdep' : ∀ j ∈ depsOf .any ops i, listed.getD j false = true := fun j hj => by
        obtain ⟨e, h1, h2, rfl⟩ := (mem_depsOf ho).1 hj
        exact hdep e h1 h2
      have hin : i < n := by
        refine Nat.lt_of_not_le fun hge => ?_
        have hall : ∀ k, k < n → listed.getD k false = true := fun k hk => clo_listed (md := .any) (ops := ops) hI.down _ _ hdep' k (by simpa using hwt.2 i ⟨hge, by omega⟩ k hk)
        have hz : ∀ k, k ≤ n → unl listed k = 0 := fun k => by
          induction k with
          | zero => intro _; rfl
          | succ k ih => intro hk; simp only [unl]; rw [ih (by omega), hall k (by omega)]; rfl
        rw [hz n (Nat.le_refl _)] at hu
        cases hu
      obtain ⟨vs, hvl, rfl, hval⟩ := hI.act
      obtain ⟨d, hd⟩ : ∃ d, ds[i]? = some d := ⟨ds[i], by simp⟩
      refine wpOpIn_mono (fun a' W' h => wpAnyIn_facts m2 hn hsz (by
        simp only [waitsB, Bool.and_eq_true, List.all_eq_true, decide_eq_true_eq, List.mem_range, List.mem_range'_1]; exact hwt) hnd hlt hstep hrest m _ a' W' ?_ ?_) (hstep i _ W d hin hd hI.bl (fun t ht => putL_off ht) (fun j e hj hje => ?_))
      · have := unl_lt hil hun' hin
        omega
      · obtain ⟨v, rfl, hb, hp⟩ := h
        refine ⟨hI.bl.trans (hb.mono hI.bl.size), by simp [hI.sz], fun k hk => ?_, fun k hk j hj => ?_, vs.set i v, by simp [hvl], putL_set hnd (by rw [hvl, hn]) hd, fun j hj hlj => ?_⟩
        · rw [set_getD hil] at hk
          split at hk
          · omega
          · exact hI.lo k hk
        · rw [set_getD hil] at hk ⊢
          split
          · rfl
          · split at hk
            · rename_i e; subst e; exact hdep' j hj
            · exact hI.down k hk j hj
        · by_cases e : i = j
          · subst e
            exact ⟨v, by rw [List.getElem?_set]; simp; omega, hp⟩
          · rw [set_getD hil, if_neg e] at hlj
            obtain ⟨x, h1, h2⟩ := hval j hj hlj
            exact ⟨x, by rw [List.getElem?_set, if_neg e]; exact h1, factAt_st ps h2 hb⟩
      · have hjm : j ∈ depsOf .any ops i := by simpa using hj
        have hjl := hdep' j hjm
        obtain ⟨x, h1, h2⟩ := hval j (hI.lo j hjl) hjl
        rw [putL_at hnd hlt hje h1]
        exact h2

/-- A region's first n operations by facts; the rest in whatever order they come. -/
theorem wpIn_region_factsA {id : Nat} {a0 : Act} {w : World} (l : List Oper) (n : Nat) (ds : List Nat) (ps : List Fact) (hm : P.follows .mixedOrders = true)
    (hwt : waitsB .any l.toArray n = true) (hn : ds.length = n) (hle : n ≤ l.length) (hnd : ds.Nodup) (hlt : ∀ d ∈ ds, d < a0.tmps.size)
    (hstep : ∀ i a W d, i < n → ds[i]? = some d → Below w.heap.size w W → (∀ t, t ∉ ds → a.eval (.tmp t) = a0.eval (.tmp t)) →
      (∀ j e, (depsOf .any l.toArray i).contains j = true → ds[j]? = some e → factAt ps j (a.eval (.tmp e)) W) →
      wpOpIn F N P l.toArray Q i (fun a' W' => ∃ v, a' = a.put (some d) v ∧ Below W.heap.size W W' ∧ factAt ps i v W') a W)
    (hrest : ∀ vs W, vs.length = n → Below w.heap.size w W → (∀ i, i < n → ∃ v, vs[i]? = some v ∧ factAt ps i v W) → wpAnyIn F N P .any l.toArray Q (l.length - n) (Array.replicate n true ++ Array.replicate (l.length - n) false) (putL a0 ds vs) W) :
    (Code.region id l.toArray true).wpIn F N P Q a0 w := by
  refine wpIn_region_any hm ?_
  have hb0 : Below w.heap.size w { w with drawn := w.drawn + 1 } := ⟨rfl, rfl, rfl, Nat.le_refl _, fun _ _ => rfl⟩
  have hI0 : FactsI l.toArray ps n ds a0 w (Array.replicate l.length false) a0 { w with drawn := w.drawn + 1 } := by
    obtain ⟨vs, h1, h2⟩ := putL_same hlt
    have hf : ∀ i, (Array.replicate l.length false).getD i false = false := fun i => by simp [Array.getD]
    have hno : ∀ i, (Array.replicate l.length false).getD i false = true → False := fun i h => by rw [hf] at h; cases h
    exact ⟨hb0, by simp, fun i h => (hno i h).elim, fun i h => (hno i h).elim, vs, by rw [h1, hn], h2, fun i _ h => (hno i h).elim⟩
  have := wpAnyIn_facts (F := F) (N := N) (P := P) (ops := l.toArray) (Q := Q) (ps := ps) (n := n) (ds := ds) (a0 := a0) (w := w) (l.length - n) hn (by simpa using hle) hwt hnd hlt hstep
    (fun listed a W hI hall => by
      obtain ⟨vs, h1, rfl, h2⟩ := hI.act
      have hL : listed = Array.replicate n true ++ Array.replicate (l.length - n) false := by
        apply Array.ext_getElem?
        intro i
        have hsz := hI.sz
        simp only [List.size_toArray] at hsz
        by_cases hi : i < n
        · have := hall i hi
          rw [Array.getElem?_append_left (by simpa using hi)]
          have hil : i < listed.size := by omega
          simp only [Array.getD, hil, dif_pos] at this
          rw [Array.getElem?_eq_getElem hil, Array.getElem?_replicate, if_pos hi]
          exact congrArg some this
        · rw [Array.getElem?_append_right (by simp; omega)]
          by_cases hil : i < listed.size
          · have : ¬ listed.getD i false = true := fun h => hi (hI.lo i h)
            simp only [Array.getD, hil, dif_pos, Bool.not_eq_true] at this
            rw [Array.getElem?_eq_getElem hil, Array.getElem?_replicate, if_pos (by simp; omega)]
            exact congrArg some this
          · rw [Array.getElem?_eq_none (by omega), Array.getElem?_eq_none (by simp; omega)]
      subst hL
      exact hrest vs W h1 hI.bl (fun i hi => h2 i hi (hall i hi)))
    n (Array.replicate l.length false) a0 { w with drawn := w.drawn + 1 } (unl_none _ _) hI0
  rw [show n + (l.length - n) = l.toArray.size by simp; omega] at this
  simpa using this

theorem fact_valueIn {i d : Nat} {o : Oper} {a : Act} {W W' : World} {v : Value} (hfn : ∀ f, F.fn f) (ho : ops[i]? = some o) (hnd : ∀ c, o.op ≠ .defer c) (hg : o.guard = none) (hd : o.dst = some d) (hrun : (execOp a.eval o).run P W = .ok (.value v) W') (hb : Below W.heap.size W W') (hp : factAt ps i v W') :
    wpOpIn F N P ops Q i (fun a' W' => ∃ v, a' = a.put (some d) v ∧ Below W.heap.size W W' ∧ factAt ps i v W') a W := by
  refine wpOpIn_at hfn hnd ho hg hrun ?_
  show ∃ u, a.put o.dst v = _ ∧ _
  rw [hd]
  exact ⟨v, rfl, hb, hp⟩
end
theorem fact_callIn {F : Fence} {N : Nat} {P : Program} {ops : Array Oper} {Q : Exit → Act → World → Prop} {ps : List Fact} {i d : Nat} {o : Oper} {a : Act} {W : World} {f : FuncId} {args : Array Value} (hfn : ∀ f, F.fn f) (hdp : F.depth = none) (ho : ops[i]? = some o) (hnd : ∀ c, o.op ≠ .defer c) (hg : o.guard = none) (hd : o.dst = some d)
    (hrun : (execOp a.eval o).run P W = .ok (.enter f args) W) (hc : CallsIn F (N - 1) P f args W fun e W' => ∃ v, e = .returned v ∧ Below W.heap.size W W' ∧ factAt ps i v W') :
    wpOpIn F N P ops Q i (fun a' W' => ∃ v, a' = a.put (some d) v ∧ Below W.heap.size W W' ∧ factAt ps i v W') a W := by
  refine wpOpIn_at hfn hnd ho hg hrun ⟨fun h => (by rw [hdp] at h; cases h), hc.mono ?_⟩
  rintro e W' ⟨v, rfl, hb, hp⟩
  show ∃ u, a.put o.dst v = _ ∧ _
  rw [hd]
  exact ⟨v, rfl, hb, hp⟩

section
variable {F : Fence} {N : Nat} {P : Program} {ops : Array Oper} {Q : Exit → Act → World → Prop} {ps : List Fact}

/-- A guarded operation that is wanted. -/
theorem fact_value_onIn {i d : Nat} {o : Oper} {a : Act} {W W' : World} {v : Value} (hfn : ∀ f, F.fn f) (ho : ops[i]? = some o) (hnd : ∀ c, o.op ≠ .defer c) (hw : Region.wanted o (yielded ops a.tmps) = true) (hd : o.dst = some d) (hrun : (execOp a.eval o).run P W = .ok (.value v) W') (hb : Below W.heap.size W W') (hp : factAt ps i v W') :
    wpOpIn F N P ops Q i (fun a' W' => ∃ v, a' = a.put (some d) v ∧ Below W.heap.size W W' ∧ factAt ps i v W') a W := by
  unfold wpOpIn
  simp only [ho]
  rw [if_pos hw]
  refine ⟨fun f _ => hfn f, ?_⟩
  rw [Oper.semAt_eq _ _ _ hnd, hrun]
  show ∃ u, a.put o.dst v = _ ∧ _
  rw [hd]
  exact ⟨v, rfl, hb, hp⟩
/-- A guarded operation that is not. -/
theorem fact_offIn {i d : Nat} {o : Oper} {a : Act} {W : World} (hfn : ∀ f, F.fn f) (ho : ops[i]? = some o) (hw : Region.wanted o (yielded ops a.tmps) = false) (hd : o.dst = some d) (hp : factAt ps i undef W) :
    wpOpIn F N P ops Q i (fun a' W' => ∃ v, a' = a.put (some d) v ∧ Below W.heap.size W W' ∧ factAt ps i v W') a W := by
  unfold wpOpIn
  simp only [ho]
  rw [if_neg (by rw [hw]; simp), hd]
  exact ⟨fun f _ => hfn f, undef, rfl, Below.refl _ _, hp⟩
end
end Go.Proofs.Ytomcjopcfdllgaa
