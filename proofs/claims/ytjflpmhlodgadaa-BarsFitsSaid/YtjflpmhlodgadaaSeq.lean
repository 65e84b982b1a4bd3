/-
  The iterators 'sawings' and 'truths' hand back a value that keeps the contract of an iterator.
-/
import Derived.Test.YtjflpmhlodgadaaSawB
namespace Go.Proofs.Ytjflpmhlodgadaa
open Go.RowKit Go.Shelf

attribute [local go_sem] Oper.semAt_some

theorem drew_below (w : World) : Below w.heap.size w w.drew := ⟨rfl, rfl, rfl, Nat.le_refl _, fun _ _ => rfl⟩

set_option maxRecDepth 100000 in
set_option maxHeartbeats 2000000 in
theorem sawings1_in (F : Fence) (hF : Hid (F = Fence.wide)) (hd : F.depth = none) (hro : F.round = none) (hfn : ∀ f, F.fn f) (n l n₀ c1 c2 : Nat) (v : Value) (S : Store) (wrong : Int) (hV : Hid (Valid S)) (hw0 : 0 ≤ wrong) (hw8 : wrong ≤ 8)
    (own : Nat → Prop) (J Jx : List (List Int) → World → Prop) (W : World) (hx : StoreAt n₀ W v S) (hn0 : n₀ ≤ W.heap.size)
    (hc1 : ∀ b0 b1 b2 b3, v = .agg #[b0, b1, b2, b3] → W.cell? ⟨c1, 0, none⟩ = some b0 ∧ W.cell? ⟨c1, 1, none⟩ = some b1 ∧ W.cell? ⟨c1, 2, none⟩ = some b2 ∧ W.cell? ⟨c1, 3, none⟩ = some b3)
    (hc2 : W.cell? ⟨c2, 0, none⟩ = some (.int .i64 wrong))
    (hown : Hid (∀ k, own k → n₀ ≤ k ∧ k < W.heap.size)) (hJ : Hid (∀ s A B, J s A → A.grownBy B (some W.heap.size) → J s B)) (hJx : Hid (∀ s A B, Jx s A → A.grownBy B (some W.heap.size) → Jx s B))
    (hY : Hid (∀ m pre x W1, pre ++ [x] <+: sawL S S.pieces.length wrong [] → J pre W1 → Buf W.heap.size x W1 → YieldAt F m Try.prog l #[.slice (some ⟨W.heap.size, 0, none⟩) x.length (capS S)] W1 fun e W' =>
      (e = .returned (.bool true) ∧ J (pre ++ [x]) W' ∧ KeptBut own W1 W') ∨ (e = .returned (.bool false) ∧ Jx (pre ++ [x]) W' ∧ KeptBut own W1 W')))
    (h0 : Hid (J [] W)) :
    CallsIn F n Try.prog 78 #[.func (.yield l) #[] #[], .pointer (some ⟨c1, 0, none⟩), .pointer (some ⟨c2, 0, none⟩)] W fun e W' => (∃ v, e = .returned v) ∧ KeptBut own W W' ∧
      (J (sawL S S.pieces.length wrong []) W' ∨ ∃ pre, pre <+: sawL S S.pieces.length wrong [] ∧ Jx pre W') := by
  have hx' := hx
  obtain ⟨a, cap1, b1, off, a2, cap2, b2, off2, rfl, hm, hm2, HA, HC, HA2, HC2⟩ := hx.opened
  obtain ⟨q0, q1, q2, q3⟩ := hc1 _ _ _ _ rfl
  have hlt1 : c1 < W.heap.size := World.block_lt_of_cell? W ⟨c1, 0, none⟩ q0
  have hlt2 : c2 < W.heap.size := World.block_lt_of_cell? W ⟨c2, 0, none⟩ hc2
  have HX := Lib.hid hx'
  clear hx hx' HA HC HA2 HC2 hc1
  refine callsIn_of_wp Try.func78 rfl (hfn _) ?_ hro
  simp only [Try.ntmps78, List.size_toArray, List.length_cons, List.length_nil, Nat.reduceAdd, Nat.reduceSub, Array.replicate_succ, Array.replicate_zero, List.push_toArray, List.append_toArray, List.nil_append, List.cons_append]
  gi_wp2
  have hrec : ∀ (n : Nat) (W1 : World), Below W.heap.size W W1 → Buf W.heap.size [] W1 → CallsIn F n Try.prog 79 #[.agg #[.slice a S.bars.length cap1, .int .i64 S.kerf, .slice a2 S.pieces.length cap2, .int .i64 S.wrong], .int .i64 wrong, .slice (some ⟨W.heap.size, 0, none⟩) 0 8, .func (.yield l) #[] #[]] W1
      (fun e W2 => ∃ b, e = .returned (.bool b) ∧ KeptBut own W W2 ∧ (J (sawL S S.pieces.length wrong []) W2 ∨ ∃ pre, pre <+: sawL S S.pieces.length wrong [] ∧ Jx pre W2)) := fun n W1 hb hbuf =>
    (saw_in F hF hd hro hfn l n₀ W.heap.size _ S hV own J Jx _ hn0 hown hJ hJx hY S.pieces.length n wrong [] 8 [] W1 (by simp) hw0 hw8 (by simp) (HX.out.below (hb.mono hn0)) ⟨by simp, fun i hi => by simp at hi⟩ hbuf
      (hJ.out _ _ _ h0.out (grown_of_kept (KeptBut.of_below hb))) (by simp)).mono (by
      have hkb : ∀ {W2 : World}, KeptBut (fun k => own k ∨ k = W.heap.size) W1 W2 → KeptBut own W W2 := fun h =>
        ⟨h.os.trans hb.os, h.tape.trans hb.tape, h.output.trans hb.output, Nat.le_trans hb.size h.size, fun k hk ho => (h.block k (Nat.lt_of_lt_of_le hk hb.size) (by rintro (h | h); exact ho h; omega)).trans (hb.block k hk)⟩
      rintro e W2 (⟨rfl, h1, h2, h3⟩ | ⟨rfl, ⟨q, h1, h2⟩, h3⟩)
      · exact ⟨true, rfl, hkb h3, .inl h1⟩
      · exact ⟨false, rfl, hkb h3, .inr ⟨q, h1, h2⟩⟩)
  have HREC := Lib.hid hrec
  clear hrec
  have hmo : Try.prog.follows .mixedOrders = true := by kernel_rfl
  have hmk : ∀ w, (Instr.makeSlice 26 (.int .i64 0) (.int .i64 8)).run Try.prog w = .ok (.slice (some ⟨w.heap.size, 0, none⟩) 0 8) (w.alloc (.cells #[.int .i64 0, .int .i64 0, .int .i64 0, .int .i64 0, .int .i64 0, .int .i64 0, .int .i64 0, .int .i64 0] 3)) := fun _ => by kernel_rfl
  gi_region_with_o (gi_at_call 79; refine CallsIn.mono (HREC.out _ _ (by exact ((Below.refl _ W).alloc (Nat.le_refl _) _).drew) (by exact ⟨_, heap_new W _, rfl, fun i hi => by simp at hi⟩)) ?_; rintro e W2 ⟨b, rfl, hp⟩; have HP := Lib.hid hp; clear hp)
  all_goals gi_wp2
  all_goals go_end0
  all_goals exact ⟨⟨_, rfl⟩, HP.out⟩

/-- The value that 'sawings' hands back keeps the contract. -/
theorem seq_sawings (F : Fence) (hF : Hid (F = Fence.wide)) (hd : F.depth = none) (hro : F.round = none) (hfn : ∀ f, F.fn f) (n n₀ c1 c2 : Nat) (v : Value) (S : Store) (wrong : Int) (hV : Hid (Valid S)) (hw0 : 0 ≤ wrong) (hw8 : wrong ≤ 8)
    (w : World) (hx : StoreAt n₀ w v S) (hn0 : n₀ ≤ w.heap.size)
    (hc1 : ∀ b0 b1 b2 b3, v = .agg #[b0, b1, b2, b3] → w.cell? ⟨c1, 0, none⟩ = some b0 ∧ w.cell? ⟨c1, 1, none⟩ = some b1 ∧ w.cell? ⟨c1, 2, none⟩ = some b2 ∧ w.cell? ⟨c1, 3, none⟩ = some b3)
    (hc2 : w.cell? ⟨c2, 0, none⟩ = some (.int .i64 wrong)) :
    SeqY F n Try.prog 78 #[.pointer (some ⟨c1, 0, none⟩), .pointer (some ⟨c2, 0, none⟩)] 0 (fun Bk (x : List Int) => .slice (some ⟨Bk, 0, none⟩) x.length (capS S)) (fun Bk x W => Buf Bk x W) (sawL S S.pieces.length wrong []) (fun k => k < n₀) w := by
  intro l own J Jx W hW hown hJ hJx hY h0
  refine sawings1_in F hF hd hro hfn n l n₀ c1 c2 v S wrong hV hw0 hw8 own J Jx W (hx.below (hW.mono hn0)) (Nat.le_trans hn0 hW.size) (fun b0 b1 b2 b3 e => ?_) ?_ (fun k hk => ⟨by have := (hown k hk).2; omega, (hown k hk).1⟩) hJ hJx (fun m pre x W1 h1 h2 h3 => yield_free hd m (hY pre x W1 h1 h2 h3.lt h3)) h0
  · obtain ⟨q0, q1, q2, q3⟩ := hc1 b0 b1 b2 b3 e
    have hlt : c1 < w.heap.size := World.block_lt_of_cell? w ⟨c1, 0, none⟩ q0
    exact ⟨(hW.cell (p := ⟨c1, 0, none⟩) hlt).trans q0, (hW.cell (p := ⟨c1, 1, none⟩) hlt).trans q1, (hW.cell (p := ⟨c1, 2, none⟩) hlt).trans q2, (hW.cell (p := ⟨c1, 3, none⟩) hlt).trans q3⟩
  · exact (hW.cell (p := ⟨c2, 0, none⟩) (World.block_lt_of_cell? w ⟨c2, 0, none⟩ hc2)).trans hc2

theorem cell1_of {w : World} {b : Nat} {v : Value} {t : TypeId} (e : w.heap[b]? = some (.cells #[v] t)) : w.cell? ⟨b, 0, none⟩ = some v ∧ w.frozen? ⟨b, 0, none⟩ = false := by
  constructor <;> simp [World.cell?, World.frozen?, e]

/-- What the function value has captured. -/
def SeqAt (v : Value) (wr : Int) (c1 c2 : Nat) (w : World) : Prop :=
  (∀ b0 b1 b2 b3, v = .agg #[b0, b1, b2, b3] → w.cell? ⟨c1, 0, none⟩ = some b0 ∧ w.cell? ⟨c1, 1, none⟩ = some b1 ∧ w.cell? ⟨c1, 2, none⟩ = some b2 ∧ w.cell? ⟨c1, 3, none⟩ = some b3) ∧ w.cell? ⟨c2, 0, none⟩ = some (.int .i64 wr)
theorem seqAt_made (b0 b1 b2 b3 : Value) (wr : Int) (w : World) (t u : TypeId) : SeqAt (.agg #[b0, b1, b2, b3]) wr w.heap.size (w.heap.size + 1) ((w.alloc (.cells #[b0, b1, b2, b3] t)).alloc (.cells #[.int .i64 wr] u)) := by
  have e1 : ((w.alloc (.cells #[b0, b1, b2, b3] t)).alloc (.cells #[.int .i64 wr] u)).heap[w.heap.size]? = some (.cells #[b0, b1, b2, b3] t) := (Below.heap_alloc _ _ _ (by simp)).trans (heap_new w _)
  have e2 : ((w.alloc (.cells #[b0, b1, b2, b3] t)).alloc (.cells #[.int .i64 wr] u)).heap[w.heap.size + 1]? = some (.cells #[.int .i64 wr] u) := by
    have := heap_new (w.alloc (.cells #[b0, b1, b2, b3] t)) (.cells #[.int .i64 wr] u); rwa [World.size_alloc] at this
  refine ⟨fun c0 c1 c2 c3 e => ?_, (cell1_of e2).1⟩
  simp only [Value.agg.injEq, Array.mk.injEq, List.cons.injEq, and_true] at e
  obtain ⟨rfl, rfl, rfl, rfl⟩ := e
  exact box4_of e1

set_option maxHeartbeats 400000 in
theorem sawings_any (a a2 : Option Addr) (n1 n2 cap cap2 : Nat) (kerf wr wrong : Int) (w : World) :
    Calls Try.prog 61 #[.agg #[.slice a n1 cap, .int .i64 kerf, .slice a2 n2 cap2, .int .i64 wr], .int .i64 wrong] w fun e w' =>
      e = .returned (.func (.func 78) #[] #[.pointer (some ⟨w.heap.size, 0, none⟩), .pointer (some ⟨w.heap.size + 1, 0, none⟩)]) ∧
      Below w.heap.size w w' ∧ w'.heap.size = w.heap.size + 2 ∧ SeqAt (.agg #[.slice a n1 cap, .int .i64 kerf, .slice a2 n2 cap2, .int .i64 wr]) wrong w.heap.size (w.heap.size + 1) w' := by
  go_enter Try.func61, Try.ntmps61
  go_wp2
  go_ret
  exact ⟨rfl, ((Below.refl _ w).alloc (Nat.le_refl _) _).alloc (by simp) _, by simp, seqAt_made _ _ _ _ _ w _ _⟩

set_option maxHeartbeats 400000 in
theorem truths_any (a a2 : Option Addr) (n1 n2 cap cap2 : Nat) (kerf wr : Int) (w : World) :
    Calls Try.prog 63 #[.agg #[.slice a n1 cap, .int .i64 kerf, .slice a2 n2 cap2, .int .i64 wr]] w fun e w' =>
      e = .returned (.func (.func 78) #[] #[.pointer (some ⟨w.heap.size + 1, 0, none⟩), .pointer (some ⟨w.heap.size + 2, 0, none⟩)]) ∧
      Below w.heap.size w w' ∧ w'.heap.size = w.heap.size + 3 ∧ SeqAt (.agg #[.slice a n1 cap, .int .i64 kerf, .slice a2 n2 cap2, .int .i64 wr]) wr (w.heap.size + 1) (w.heap.size + 2) w' := by
  go_enter Try.func63, Try.ntmps63
  go_wp2_with (go_at_call 61; refine (sawings_any _ _ _ _ _ _ _ _ _ _).mono ?_; rintro e w' ⟨rfl, hb, hs, hq⟩; have HB := Lib.hid hb; have HS := Lib.hid hs; have HQ := Lib.hid hq; clear hb hs hq)
  go_ret
  have hb := HB.out
  have hs := HS.out
  have hq := HQ.out
  simp only [World.size_alloc] at hb hs hq
  exact ⟨by simp, ((Below.refl _ w).alloc (Nat.le_refl _) _).trans (hb.mono (by omega)), by omega, by simpa using hq⟩

theorem putObj_below {B : Nat} (W : World) {D : Nat} (o : Obj) (h : B ≤ D) : Below B W (W.putObj D o) :=
  ⟨rfl, rfl, rfl, by simp, fun k hk => World.putObj_heap_other (by omega)⟩
theorem setBox {W : World} {B : Nat} {t : TypeId} {v : Value} (v' : Value) (h : W.heap[B]? = some (.cells #[v] t)) : (W.setCell ⟨B, 0, none⟩ v').heap[B]? = some (.cells #[v'] t) := Boxed.set v' h

/-- The law for a caller that ranges over the sawings: own are the boxes that the body writes. -/
theorem wpIn_saw (F : Fence) (hF : Hid (F = Fence.wide)) (hd : F.depth = none) (hro : F.round = none) (hfn : ∀ f, F.fn f) {n : Nat} (h1 : 1 ≤ n) {g : Operand} {ps : Array Tmp} {assign body : Code} {Q : Exit → Act → World → Prop} {a : Act} {w : World}
    {c1 c2 : Nat} (hg : a.eval g = .func (.func 78) #[] #[.pointer (some ⟨c1, 0, none⟩), .pointer (some ⟨c2, 0, none⟩)]) (n₀ : Nat) (v : Value) (S : Store) (wrong : Int) (hV : Hid (Valid S)) (hw0 : 0 ≤ wrong) (hw8 : wrong ≤ 8)
    (hx : StoreAt n₀ w v S) (hn0 : n₀ ≤ w.heap.size)
    (hc1 : ∀ b0 b1 b2 b3, v = .agg #[b0, b1, b2, b3] → w.cell? ⟨c1, 0, none⟩ = some b0 ∧ w.cell? ⟨c1, 1, none⟩ = some b1 ∧ w.cell? ⟨c1, 2, none⟩ = some b2 ∧ w.cell? ⟨c1, 3, none⟩ = some b3)
    (hc2 : w.cell? ⟨c2, 0, none⟩ = some (.int .i64 wrong)) (hps : ps.size = 1)
    (own : Nat → Prop) (hown : ∀ k, own k → n₀ ≤ k ∧ k < w.heap.size)
    (I : List (List Int) → World → Prop) (Ix : Code → List (List Int) → World → Prop) (hI : OwnAt w.heap.size 0 I) (hIx : ∀ d, OwnAt w.heap.size 0 (Ix d)) (h0 : I [] w) (a₁ : Array Value → List Int → Act)
    (hassign : ∀ (l : Nat) (x : List Int) (W : World) (K : Act → World → Prop), K (a₁ a.tmps x) W →
      assign.wpIn (F.inRound l) (n - 1 - 1) Try.prog (Exit.then K (fun _ _ _ => False)) { tmps := (ps.zip #[.slice (some ⟨w.heap.size + 2, 0, none⟩) x.length (capS S)]).foldl (fun t (p, v) => t.setIfInBounds p v) a.tmps, defers := [] } W)
    (hbody : ∀ (l : Nat) (pre : List (List Int)) (x : List Int) (W : World), pre ++ [x] <+: sawL S S.pieces.length wrong [] → I pre W → KeptBut own w W → Buf (w.heap.size + 2) x W →
      body.wpIn (F.inRound l) (n - 1 - 1) Try.prog (postY own I Ix (pre ++ [x]) W) (a₁ a.tmps x) W)
    (hdone : ∀ (D : Nat) (W : World), w.heap.size ≤ D → KeptBut own w W → I (sawL S S.pieces.length wrong []) W → W.heap[D]? = some (.deferred (some [])) → Q .normal { a with defers := { target := .collected D, args := #[] } :: a.defers } W)
    (hstop : ∀ (D : Nat) (d : Code) (pre : List (List Int)) (W : World), w.heap.size ≤ D → KeptBut own w W → pre <+: sawL S S.pieces.length wrong [] → Ix d pre W → W.heap[D]? = some (.deferred (some [])) → d.wpIn F n Try.prog Q { a with defers := { target := .collected D, args := #[] } :: a.defers } W) :
    (Code.rangeFunc g ps assign body).wpIn F n Try.prog Q a w :=
  wpIn_rangeFunc_Y hro h1 hg (hfn _) (enters_of Try.func78 (by kernel_rfl) rfl) (seq_sawings F hF hd hro hfn (n - 1) n₀ c1 c2 v S wrong hV hw0 hw8 w hx hn0 hc1 hc2) (Below.refl _ _) hps
    own (fun k hk => ⟨(hown k hk).2, by have := (hown k hk).1; omega⟩) (fun k hk => by omega)
    (fun x A B hA hg => Buf.kept hA (hg.block _ hA.lt (by simp))) I Ix hI hIx h0 (a₁ a.tmps) hassign (fun l pre x W h1 h2 h3 _ h5 => hbody l pre x W h1 h2 h3 h5) hdone hstop

theorem flatTo_length {α : Type} (f : Nat → List α) (b : Nat) (h : ∀ k, (f k).length ≤ b) : ∀ n, (flatTo f n).length ≤ n * b
  | 0 => by simp [flatTo]
  | n + 1 => by have := flatTo_length f b h n; have := h n; simp only [flatTo, List.length_append, Nat.succ_mul]; omega
theorem sawAt_cases (S : Store) (m : Nat) (wrong : Int) (first : List Int) (k : Nat) : sawAt S m wrong first k = [] ∨
    (sawAt S m wrong first k = sawL S m (wrong - (if wrongAt S first.length k = true then 1 else 0)) (first ++ [(k : Int)]) ∧ 0 ≤ wrong - (if wrongAt S first.length k = true then 1 else 0) ∧ 0 ≤ restS S (first ++ [(k : Int)]) k) := by
  unfold sawAt
  by_cases h : wrong - (if wrongAt S first.length k = true then 1 else 0) < 0 ∨ restS S (first ++ [(k : Int)]) k < 0
  · rw [if_pos h]; exact .inl rfl
  · rw [if_neg h]; exact .inr ⟨rfl, by omega, by omega⟩
theorem sawL_length {S : Store} (hV : Valid S) : ∀ (m : Nat) (wrong : Int) (first : List Int), (sawL S m wrong first).length ≤ 6 ^ m
  | 0, _, _ => by simp [sawL]
  | m + 1, wrong, first => by
    rw [sawL_succ]
    refine Nat.le_trans (flatTo_length _ (6 ^ m) (fun k => ?_) _) ?_
    · rcases sawAt_cases S m wrong first k with h | ⟨h, _⟩
      · rw [h]; simp
      · rw [h]; exact sawL_length hV m _ _
    · rw [Nat.pow_succ, Nat.mul_comm]; exact Nat.mul_le_mul_left _ hV.nb
theorem sawL_len {S : Store} (hV : Valid S) (wrong : Int) : (sawL S S.pieces.length wrong []).length ≤ 1679616 :=
  Nat.le_trans (sawL_length hV _ _ _) (Nat.pow_le_pow_right (by omega) hV.np)
def errN (n : Nat) : Int := if n = 0 then 3 else 0
theorem errN_zero : errN 0 = 3 := rfl
theorem errN_pos {n : Nat} (h : n ≠ 0) : errN n = 0 := if_neg h
def truthsL (S : Store) : List (List Int) := sawL S S.pieces.length S.wrong []
end Go.Proofs.Ytjflpmhlodgadaa
