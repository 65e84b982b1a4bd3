/-
  The iterator 'saw': its contract.
-/
import Derived.Test.YtjflpmhlodgadaaSawA
namespace Go.Proofs.Ytjflpmhlodgadaa
open Go.RowKit Go.Shelf

attribute [local go_sem] Oper.semAt_some

theorem inF {F : Fence} (hF : Hid (F = Fence.wide)) {n : Nat} {P : Program} {f : FuncId} {args : Array Value} {w : World} {R : Ending → World → Prop} (h : Calls P f args w R) : CallsIn F n P f args w R := by
  have := hF.out
  subst this
  exact callsIn_wide.2 h
theorem room_free {F : Fence} (hd : F.depth = none) (k : Nat) : F.room k := fun d h => by rw [hd] at h; cases h
theorem round_free {F : Fence} (hd : F.depth = none) {m m' : Nat} {P : Program} {l : Nat} {f : FuncId} {tmps : Array Value} {assign body : Code} {w : World} {R : Ending → World → Prop}
    (h : RoundIn F m P l f tmps assign body w R) : RoundIn F m' P l f tmps assign body w R := ⟨h.1, fun c cs _ => h.2 c cs (room_free hd _)⟩
theorem yield_free {F : Fence} (hd : F.depth = none) {m : Nat} (m' : Nat) {P : Program} {l : Nat} {args : Array Value} {W : World} {R : Ending → World → Prop} (h : YieldAt F m P l args W R) : YieldAt F m' P l args W R := by
  obtain ⟨fn, tmps, assign, body, hy, hR⟩ := h
  exact ⟨fn, tmps, assign, body, hy, round_free hd hR⟩

def capS (S : Store) : Nat := if S.pieces.length = 0 then 8 else S.pieces.length
theorem I64_small {x : Int} (h0 : 0 ≤ x) (h1 : x ≤ 1000) : I64 x := ⟨by omega, by omega⟩

/-- What is told of one part of the search: how it ends. -/
def SawPost (Bk : Nat) (own : Nat → Prop) (J Jx : List (List Int) → World → Prop) (pre ys : List (List Int)) (first : List Int) (W : World) (e : Ending) (W' : World) : Prop :=
  (e = .returned (.bool true) ∧ J (pre ++ ys) W' ∧ Buf Bk first W' ∧ KeptBut (fun k => own k ∨ k = Bk) W W') ∨
  (e = .returned (.bool false) ∧ (∃ q, q <+: ys ∧ Jx (pre ++ q) W') ∧ KeptBut (fun k => own k ∨ k = Bk) W W')
theorem box4_of {wr : World} {b : Nat} {v0 v1 v2 v3 : Value} {t : TypeId} (e : wr.heap[b]? = some (.cells #[v0, v1, v2, v3] t)) :
    wr.cell? ⟨b, 0, none⟩ = some v0 ∧ wr.cell? ⟨b, 1, none⟩ = some v1 ∧ wr.cell? ⟨b, 2, none⟩ = some v2 ∧ wr.cell? ⟨b, 3, none⟩ = some v3 := by
  refine ⟨?_, ?_, ?_, ?_⟩ <;> simp [World.cell?, e]

set_option maxRecDepth 100000 in
set_option maxHeartbeats 1000000 in
theorem saw_end (F : Fence) (hF : Hid (F = Fence.wide)) (hd : F.depth = none) (hro : F.round = none) (hfn : ∀ f, F.fn f) (n l Bk cap : Nat) (v : Value) (S : Store) (wrong : Int) (first : List Int) (W : World) {B : Nat} {R : Ending → World → Prop}
    (hx : StoreAt B W v S) (hlen : first.length = S.pieces.length)
    (hy : ∀ o m, YieldAt F m Try.prog l #[.slice (some ⟨Bk, 0, none⟩) first.length cap] (W.alloc o) fun e W' => ∃ b, e = .returned (.bool b) ∧ R e W') :
    CallsIn F n Try.prog 79 #[v, .int .i64 wrong, .slice (some ⟨Bk, 0, none⟩) first.length cap, .func (.yield l) #[] #[]] W R := by
  obtain ⟨a, cap1, b1, off, a2, cap2, b2, off2, rfl, hm, hm2, HA, HC, HA2, HC2⟩ := hx.opened
  clear hx HA HC HA2 HC2
  have hn : ((first.length : Int) == (S.pieces.length : Int)) = true := by simp [hlen]
  have hl9 : first.length ≤ 9223372036854775807 := by omega
  have HL := Lib.hid hlen
  clear hlen
  obtain ⟨fn, tmps, assign, body, hyy, hR⟩ := hy (.cells #[.slice a S.bars.length cap1, .int .i64 S.kerf, .slice a2 S.pieces.length cap2, .int .i64 S.wrong] 25) (n - 1)
  refine callsIn_of_wp Try.func79 rfl (hfn _) ?_ hro
  simp only [Try.ntmps79, List.size_toArray, List.length_cons, List.length_nil, Nat.reduceAdd, Nat.reduceSub, Array.replicate_succ, Array.replicate_zero, List.push_toArray, List.append_toArray, List.nil_append, List.cons_append]
  gi_wp2
  refine hR.mono ?_
  rintro e W2 ⟨b, rfl, hr⟩
  gi_wp2
  exact hr

theorem cell_set_other {W : World} {b Bk o c : Nat} {x : Value} (h : b ≠ Bk) : (W.setCell ⟨Bk, o, none⟩ x).cell? ⟨b, c, none⟩ = W.cell? ⟨b, c, none⟩ :=
  World.cell?_of_block (Below.heap_setCell _ _ _ _ h)
theorem grown_of_kept {Bk : Nat} {A B : World} (h : KeptBut (fun j => j = Bk) A B) : A.grownBy B (some Bk) :=
  ⟨h.os, h.tape, h.output, h.size, fun k hk hne => h.block k hk (fun e => hne (by rw [e]))⟩
theorem okBars_snoc {S : Store} {first : List Int} {k : Nat} (h : OkBars S first) (hl : first.length < S.pieces.length) (hk : k < S.bars.length) : OkBars S (first ++ [(k : Int)]) := by
  refine ⟨by simp; omega, fun i hi => ?_⟩
  simp only [List.length_append, List.length_cons, List.length_nil] at hi
  by_cases e : i = first.length
  · subst e; rw [nth_snoc]; omega
  · rw [nth_snoc_lt (by omega)]; exact h.2 i (by omega)
theorem OkBars.i64 {S : Store} {L : List Int} (h : OkBars S L) (hV : Valid S) : ∀ x ∈ L, I64 x := fun x hx => by
  obtain ⟨i, hi, rfl⟩ := mem_iff_nth.1 hx
  have := h.2 i hi
  have := hV.nb
  exact I64_small (by omega) (by omega)

theorem Try_infoInt : (Try.prog.info? 3).map (fun i => (i.zero, i.size, i.bytes)) = some (some (.int .i64 0), 1, 8) := by kernel_rfl

set_option maxRecDepth 100000 in
set_option maxHeartbeats 4000000 in
theorem saw_in (F : Fence) (hF : Hid (F = Fence.wide)) (hd : F.depth = none) (hro : F.round = none) (hfn : ∀ f, F.fn f) (l n₀ Bk : Nat) (v : Value) (S : Store) (hV : Hid (Valid S)) (own : Nat → Prop) (J Jx : List (List Int) → World → Prop) (xs : List (List Int))
    (hn0 : n₀ ≤ Bk) (hown : Hid (∀ k, own k → n₀ ≤ k ∧ k < Bk)) (hJ : Hid (∀ s A B, J s A → A.grownBy B (some Bk) → J s B)) (hJx : Hid (∀ s A B, Jx s A → A.grownBy B (some Bk) → Jx s B))
    (hY : Hid (∀ m pre x W1, pre ++ [x] <+: xs → J pre W1 → Buf Bk x W1 → YieldAt F m Try.prog l #[.slice (some ⟨Bk, 0, none⟩) x.length (capS S)] W1 fun e W' =>
      (e = .returned (.bool true) ∧ J (pre ++ [x]) W' ∧ KeptBut own W1 W') ∨ (e = .returned (.bool false) ∧ Jx (pre ++ [x]) W' ∧ KeptBut own W1 W'))) :
    ∀ (m n : Nat) (wrong : Int) (first : List Int) (cap : Nat) (pre : List (List Int)) (W : World), first.length + m = S.pieces.length → 0 ≤ wrong → wrong ≤ 8 → cap = (if first.length = 0 then 8 else S.pieces.length) →
      StoreAt n₀ W v S → OkBars S first → Buf Bk first W → J pre W → pre ++ sawL S m wrong first <+: xs →
      CallsIn F n Try.prog 79 #[v, .int .i64 wrong, .slice (some ⟨Bk, 0, none⟩) first.length cap, .func (.yield l) #[] #[]] W (SawPost Bk own J Jx pre (sawL S m wrong first) first W) := by
  intro m
  induction m with
  | zero =>
    intro n wrong first cap pre W hlen hw0 hw8 hcap hx hO hb hj hpre
    have hc : cap = capS S := by unfold capS; rw [hcap]; have : first.length = S.pieces.length := by omega
                                 rw [this]
    subst hc
    refine saw_end F hF hd hro hfn n l Bk (capS S) v S wrong first W hx (by omega) (fun o k => ?_)
    have hka : KeptBut (fun k => own k ∨ k = Bk) W (W.alloc o) := KeptBut.of_below ((Below.refl _ W).alloc (Nat.le_refl _) o)
    refine YieldAt.mono (hY.out k pre first (W.alloc o) (by simpa [sawL] using hpre) (hJ.out _ _ _ hj (World.grownBy_alloc W o _)) (hb.kept (Below.heap_alloc W o Bk hb.lt))) ?_
    have hnb : ¬ own Bk := fun h => by have := (hown.out Bk h).2; omega
    rintro e W' (⟨rfl, h1, h2⟩ | ⟨rfl, h1, h2⟩)
    · exact ⟨true, rfl, .inl ⟨rfl, h1, (hb.kept (Below.heap_alloc W o Bk hb.lt)).kept (h2.block Bk (by have := hb.lt; simp; omega) hnb), hka.trans (h2.mono fun _ _ h => .inl h)⟩⟩
    · exact ⟨false, rfl, .inr ⟨rfl, ⟨[first], List.prefix_refl _, h1⟩, hka.trans (h2.mono fun _ _ h => .inl h)⟩⟩
  | succ m ih =>
    intro n wrong first cap pre W hlen hw0 hw8 hcap hx hO hb hj hpre
    have hx' := hx
    obtain ⟨a, cap1, b1, off, a2, cap2, b2, off2, rfl, hm, hm2, HA, HC, HA2, HC2⟩ := hx.opened
    clear hx HA HC HA2 HC2
    have hnp := hV.out.np
    have hbW := hb.lt
    have hn : ((first.length : Int) == (S.pieces.length : Int)) = false := by simp; omega
    have hc1 : S.pieces.length ≤ cap := by rw [hcap]; split <;> omega
    have hl1 : first.length < S.pieces.length := by omega
    have HL := Lib.hid hlen
    have HCAP := Lib.hid hcap
    have HB := Lib.hid hb
    have HO := Lib.hid hO
    have HJ0 := Lib.hid hj
    have HP := Lib.hid hpre
    have HX := Lib.hid hx'
    have HIH := Lib.hid ih
    clear hlen hcap hb hO hj hpre hx' ih
    obtain ⟨i0, hi, hz0, hz1, hz2⟩ := info_parts Try_infoInt
    refine callsIn_of_wp Try.func79 rfl (hfn _) ?_ hro
    simp only [Try.ntmps79, List.size_toArray, List.length_cons, List.length_nil, Nat.reduceAdd, Nat.reduceSub, Array.replicate_succ, Array.replicate_zero, List.push_toArray, List.append_toArray, List.nil_append, List.cons_append]
    gi_wp2
    gi_loopw [26] (fun i wr => ∃ k : Nat, k ≤ S.bars.length ∧ i = .int .i64 k ∧ Hid (J (pre ++ flatTo (sawAt S m wrong first) k) wr) ∧ Hid (Buf Bk first wr) ∧ Hid (KeptBut (fun k => own k ∨ k = Bk) (W.alloc (.cells #[.slice a S.bars.length cap1, .int .i64 S.kerf, .slice a2 S.pieces.length cap2, .int .i64 S.wrong] 25)) wr)) (fun i _ => S.bars.length - (intOf i).toNat)
    case atStart =>
      exact ⟨0, Nat.zero_le _, rfl, by simpa [flatTo, Hid] using hJ.out _ _ _ HJ0.out (World.grownBy_alloc W _ _), HB.out.kept (Below.heap_alloc W _ Bk hbW), KeptBut.refl _ _⟩
    case round =>
      obtain ⟨k, hk, rfl, hjk, hbk, hkb⟩ := hrel
      have hbox : wr.heap[W.heap.size]? = some (.cells #[.slice a S.bars.length cap1, .int .i64 S.kerf, .slice a2 S.pieces.length cap2, .int .i64 S.wrong] 25) :=
        (hkb.out.block W.heap.size (by simp) (by rintro (h | h); have := (hown.out _ h).2; omega; omega)).trans (heap_new W _)
      have HBX := Lib.hid hbox
      obtain ⟨c0, c1, c2, c3⟩ := box4_of hbox
      have hszr : W.heap.size + 1 ≤ wr.heap.size := by have := hkb.out.size; simpa using this
      clear hbox
      by_cases hlt : k < S.bars.length
      · have hxr : StoreAt n₀ wr (.agg #[.slice a S.bars.length cap1, .int .i64 S.kerf, .slice a2 S.pieces.length cap2, .int .i64 S.wrong]) S :=
          HX.out.below (((Below.refl n₀ W).alloc (by omega) _).trans (hkb.out.below (by simp; omega) (by rintro j (h | h); exact (hown.out _ h).1; omega)))
        have hnr : n₀ ≤ wr.heap.size := by omega
        cases hr : wrongAt S first.length k
        all_goals
          have HQ := Lib.hid hr
          clear hr
          gi_wp2_with fail
          refine (inF hF (isWrong_to (B := n₀) (p := (first.length : Int)) (b := (k : Int)) HQ.out hxr hnr (by omega) (by omega) (by omega) (by omega))).mono ?_
          rintro e w1 ⟨rfl, hb1⟩
          have hsz1 := hb1.size
          have hbx1 := (hb1.block W.heap.size (by omega)).trans HBX.out
          obtain ⟨f0, f1, f2, f3⟩ := box4_of hbx1
          have HBX1 := Lib.hid hbx1
          have HBK1 := Lib.hid (hbk.out.kept (hb1.block Bk (by omega)))
          clear hbx1 c0 c1 c2 c3
          have hbk1 : Bk < w1.heap.size := by omega
          have hwb1 : W.heap.size < w1.heap.size := by omega
          obtain ⟨u, hu⟩ := Option.isSome_iff_exists.1 (HBK1.out.some (i := first.length) (by omega))
          have hfr := HBK1.out.frozen first.length
          have g0 := (cell_set_other (W := w1) (o := first.length) (x := .int .i64 k) (c := 0) (show W.heap.size ≠ Bk by omega)).trans f0
          have g1 := (cell_set_other (W := w1) (o := first.length) (x := .int .i64 k) (c := 1) (show W.heap.size ≠ Bk by omega)).trans f1
          have g2 := (cell_set_other (W := w1) (o := first.length) (x := .int .i64 k) (c := 2) (show W.heap.size ≠ Bk by omega)).trans f2
          have g3 := (cell_set_other (W := w1) (o := first.length) (x := .int .i64 k) (c := 3) (show W.heap.size ≠ Bk by omega)).trans f3
        · gi_wp2_with fail
          obtain ⟨w2, hw2⟩ : ∃ w2, w2 = (w1.setCell ⟨Bk, first.length, none⟩ (.int .i64 k)).alloc (.cells #[.int .i64 k] 3) := ⟨_, rfl⟩
          rw [← hw2]
          have hk12 : KeptBut (fun j => j = Bk) w1 w2 := hw2 ▸ (KeptBut.setCell (own := fun j => j = Bk) w1 ⟨Bk, first.length, none⟩ _ rfl).trans (KeptBut.of_below ((Below.refl _ _).alloc (Nat.le_refl _) _))
          have hkr2 : KeptBut (fun j => j = Bk) wr w2 := (KeptBut.of_below hb1).trans hk12
          have hsz2 : w1.heap.size ≤ w2.heap.size := hk12.size
          have hbuf2 : Buf Bk (first ++ [(k : Int)]) w2 := hw2 ▸ (HBK1.out.put k (by omega)).kept (Below.heap_alloc _ _ _ (by simpa [World.setCell] using hbk1))
          have hbx2 : w2.heap[W.heap.size]? = some (.cells #[.slice a S.bars.length cap1, .int .i64 S.kerf, .slice a2 S.pieces.length cap2, .int .i64 S.wrong] 25) := (hk12.block W.heap.size (by omega) (by omega)).trans HBX1.out
          clear hw2 g0 g1 g2 g3 hu hfr hb1
          have hx2 : StoreAt n₀ w2 (.agg #[.slice a S.bars.length cap1, .int .i64 S.kerf, .slice a2 S.pieces.length cap2, .int .i64 S.wrong]) S := hxr.below (hkr2.below hnr (by rintro j rfl; exact hn0))
          have hOk : OkBars S (first ++ [(k : Int)]) := okBars_snoc HO.out hl1 hlt
          refine (inF hF (rest_any _ _ S (first ++ [(k : Int)]) k _ (B := w2.heap.size) hV.out (hx2.mono (by omega)) (Nat.le_refl _) (by simpa using hbuf2.ints (B := w2.heap.size) (cap := S.pieces.length) (by omega) (by simp; omega) hnp (hOk.i64 hV.out)) hOk.1 (by omega) (by omega))).mono ?_
          rintro e w3 ⟨rfl, hb3⟩
          have hsz3 := hb3.size
          have hkr3 : KeptBut (fun j => j = Bk) wr w3 := hkr2.trans (KeptBut.of_below hb3)
          have hj3 : J (pre ++ flatTo (sawAt S m wrong first) k) w3 := hJ.out _ _ _ hjk.out (grown_of_kept hkr3)
          have hbuf3 : Buf Bk (first ++ [(k : Int)]) w3 := hbuf2.kept (hb3.block Bk (by omega))
          have hbx3 := (hb3.block W.heap.size (by omega)).trans hbx2
          have hx3 := hx2.below (hb3.mono (by omega))
          obtain ⟨p0, p1, p2, p3⟩ := box4_of hbx3
          have hkw3 : KeptBut (fun j => own j ∨ j = Bk) (W.alloc (.cells #[.slice a S.bars.length cap1, .int .i64 S.kerf, .slice a2 S.pieces.length cap2, .int .i64 S.wrong] 25)) w3 := hkb.out.trans (hkr3.mono fun _ _ h => .inr h)
          have HJ3 := Lib.hid hj3
          have HBU3 := Lib.hid hbuf3
          have HBX3 := Lib.hid hbx3
          have HK3 := Lib.hid hkw3
          have HX3 := Lib.hid hx3
          have HOK := Lib.hid hOk
          clear hj3 hbuf3 hbx3 hkw3 hx3 hOk hkr3 hb3 hx2 hbx2 hbuf2 hkr2 hk12
          by_cases hr0 : restS S (first ++ [(k : Int)]) k < 0
          · gi_wp2
            exact ⟨⟨k + 1, by omega, by go_num, by show J (pre ++ flatTo (sawAt S m wrong first) (k + 1)) w3; simpa [flatTo, sawAt, hr0] using HJ3.out, HBU3.out.drop, HK3.out⟩, by simp [intOf]; omega⟩
          · have hat : sawAt S m wrong first k = sawL S m wrong (first ++ [(k : Int)]) := by simp [sawAt, hr0, HQ.out]; try omega
            have HAT := Lib.hid hat
            clear hat
            have hrec := HIH.out (n - 1) wrong (first ++ [(k : Int)]) S.pieces.length (pre ++ flatTo (sawAt S m wrong first) k) w3 (by have := HL.out; simp; omega) (by omega) (by omega) (by simp) HX3.out HOK.out HBU3.out HJ3.out (by
              rw [← HAT.out, List.append_assoc]
              exact ((List.prefix_append_right_inj pre).2 (flatTo_prefix (sawAt S m wrong first) (k := k + 1) hlt)).trans (by have := HP.out; rwa [sawL_succ] at this))
            have HREC := Lib.hid hrec
            clear hrec
            gi_wp2_with fail
            refine CallsIn.mono (by have := HREC.out; simpa only [List.length_append, List.length_cons, List.length_nil, Nat.zero_add] using this) ?_
            rintro e w4 (⟨rfl, h1, h2, h3⟩ | ⟨rfl, ⟨q, h1, h2⟩, h3⟩)
            · have H1 := Lib.hid h1
              have H2 := Lib.hid h2
              have H3 := Lib.hid h3
              clear h1 h2 h3
              gi_wp2
              exact ⟨⟨k + 1, by omega, by go_num, by have := H1.out; rw [← HAT.out, List.append_assoc] at this; exact this, H2.out.drop, HK3.out.trans H3.out⟩, by simp [intOf]; omega⟩
            · have H1 := Lib.hid h1
              have H2 := Lib.hid h2
              have H3 := Lib.hid h3
              clear h1 h2 h3
              gi_wp2
              go_ret
              exact .inr ⟨rfl, ⟨flatTo (sawAt S m wrong first) k ++ q, by
                rw [sawL_succ]
                exact ((List.prefix_append_right_inj _).2 (HAT.out ▸ H1.out)).trans (flatTo_prefix (sawAt S m wrong first) (k := k + 1) hlt), by rw [← List.append_assoc]; exact H2.out⟩, (KeptBut.of_below ((Below.refl _ W).alloc (Nat.le_refl _) _)).trans (HK3.out.trans H3.out)⟩
        · by_cases hw1 : 1 ≤ wrong
          case neg =>
            obtain ⟨w2, hw2⟩ : ∃ w2, w2 = (w1.setCell ⟨Bk, first.length, none⟩ (.int .i64 k)).alloc (.cells #[.int .i64 k] 3) := ⟨_, rfl⟩
            have hk12 : KeptBut (fun j => j = Bk) w1 w2 := hw2 ▸ (KeptBut.setCell (own := fun j => j = Bk) w1 ⟨Bk, first.length, none⟩ _ rfl).trans (KeptBut.of_below ((Below.refl _ _).alloc (Nat.le_refl _) _))
            have hkr2 : KeptBut (fun j => j = Bk) wr w2 := (KeptBut.of_below hb1).trans hk12
            have hbuf2 : Buf Bk (first ++ [(k : Int)]) w2 := hw2 ▸ (HBK1.out.put k (by omega)).kept (Below.heap_alloc _ _ _ (by simpa [World.setCell] using hbk1))
            have hj2 : J (pre ++ flatTo (sawAt S m wrong first) k) w2 := hJ.out _ _ _ hjk.out (grown_of_kept hkr2)
            have hkw2 := hkb.out.trans (hkr2.mono (own' := fun j => own j ∨ j = Bk) fun _ _ h => .inr h)
            have hat : sawAt S m wrong first k = [] := by simp [sawAt, HQ.out]; intro h; omega
            have HAT := Lib.hid hat
            have HW2 := Lib.hid hw2
            have HJ2 := Lib.hid hj2
            have HBU2 := Lib.hid hbuf2
            have HK2 := Lib.hid hkw2
            clear hat hw2 hj2 hbuf2 hkw2 hkr2 hk12
            gi_wp2
            rw [← HW2.out]
            exact ⟨⟨k + 1, by omega, by go_num, by show J (pre ++ flatTo (sawAt S m wrong first) (k + 1)) w2; simpa [flatTo, HAT.out] using HJ2.out, HBU2.out.drop, HK2.out⟩, by simp [intOf]; omega⟩
          gi_wp2_with fail
          obtain ⟨w2, hw2⟩ : ∃ w2, w2 = (w1.setCell ⟨Bk, first.length, none⟩ (.int .i64 k)).alloc (.cells #[.int .i64 k] 3) := ⟨_, rfl⟩
          rw [← hw2]
          have hk12 : KeptBut (fun j => j = Bk) w1 w2 := hw2 ▸ (KeptBut.setCell (own := fun j => j = Bk) w1 ⟨Bk, first.length, none⟩ _ rfl).trans (KeptBut.of_below ((Below.refl _ _).alloc (Nat.le_refl _) _))
          have hkr2 : KeptBut (fun j => j = Bk) wr w2 := (KeptBut.of_below hb1).trans hk12
          have hsz2 : w1.heap.size ≤ w2.heap.size := hk12.size
          have hbuf2 : Buf Bk (first ++ [(k : Int)]) w2 := hw2 ▸ (HBK1.out.put k (by omega)).kept (Below.heap_alloc _ _ _ (by simpa [World.setCell] using hbk1))
          have hbx2 : w2.heap[W.heap.size]? = some (.cells #[.slice a S.bars.length cap1, .int .i64 S.kerf, .slice a2 S.pieces.length cap2, .int .i64 S.wrong] 25) := (hk12.block W.heap.size (by omega) (by omega)).trans HBX1.out
          clear hw2 g0 g1 g2 g3 hu hfr hb1
          have hx2 : StoreAt n₀ w2 (.agg #[.slice a S.bars.length cap1, .int .i64 S.kerf, .slice a2 S.pieces.length cap2, .int .i64 S.wrong]) S := hxr.below (hkr2.below hnr (by rintro j rfl; exact hn0))
          have hOk : OkBars S (first ++ [(k : Int)]) := okBars_snoc HO.out hl1 hlt
          refine (inF hF (rest_any _ _ S (first ++ [(k : Int)]) k _ (B := w2.heap.size) hV.out (hx2.mono (by omega)) (Nat.le_refl _) (by simpa using hbuf2.ints (B := w2.heap.size) (cap := S.pieces.length) (by omega) (by simp; omega) hnp (hOk.i64 hV.out)) hOk.1 (by omega) (by omega))).mono ?_
          rintro e w3 ⟨rfl, hb3⟩
          have hsz3 := hb3.size
          have hkr3 : KeptBut (fun j => j = Bk) wr w3 := hkr2.trans (KeptBut.of_below hb3)
          have hj3 : J (pre ++ flatTo (sawAt S m wrong first) k) w3 := hJ.out _ _ _ hjk.out (grown_of_kept hkr3)
          have hbuf3 : Buf Bk (first ++ [(k : Int)]) w3 := hbuf2.kept (hb3.block Bk (by omega))
          have hbx3 := (hb3.block W.heap.size (by omega)).trans hbx2
          have hx3 := hx2.below (hb3.mono (by omega))
          obtain ⟨p0, p1, p2, p3⟩ := box4_of hbx3
          have hkw3 : KeptBut (fun j => own j ∨ j = Bk) (W.alloc (.cells #[.slice a S.bars.length cap1, .int .i64 S.kerf, .slice a2 S.pieces.length cap2, .int .i64 S.wrong] 25)) w3 := hkb.out.trans (hkr3.mono fun _ _ h => .inr h)
          have HJ3 := Lib.hid hj3
          have HBU3 := Lib.hid hbuf3
          have HBX3 := Lib.hid hbx3
          have HK3 := Lib.hid hkw3
          have HX3 := Lib.hid hx3
          have HOK := Lib.hid hOk
          clear hj3 hbuf3 hbx3 hkw3 hx3 hOk hkr3 hb3 hx2 hbx2 hbuf2 hkr2 hk12
          by_cases hr0 : restS S (first ++ [(k : Int)]) k < 0
          · gi_wp2
            exact ⟨⟨k + 1, by omega, by go_num, by show J (pre ++ flatTo (sawAt S m wrong first) (k + 1)) w3; simpa [flatTo, sawAt, hr0] using HJ3.out, HBU3.out.drop, HK3.out⟩, by simp [intOf]; omega⟩
          · have hat : sawAt S m wrong first k = sawL S m (wrong - 1) (first ++ [(k : Int)]) := by simp [sawAt, hr0, HQ.out]; try omega
            have HAT := Lib.hid hat
            clear hat
            have hrec := HIH.out (n - 1) (wrong - 1) (first ++ [(k : Int)]) S.pieces.length (pre ++ flatTo (sawAt S m wrong first) k) w3 (by have := HL.out; simp; omega) (by omega) (by omega) (by simp) HX3.out HOK.out HBU3.out HJ3.out (by
              rw [← HAT.out, List.append_assoc]
              exact ((List.prefix_append_right_inj pre).2 (flatTo_prefix (sawAt S m wrong first) (k := k + 1) hlt)).trans (by have := HP.out; rwa [sawL_succ] at this))
            have HREC := Lib.hid hrec
            clear hrec
            gi_wp2_with fail
            refine CallsIn.mono (by have := HREC.out; simpa only [List.length_append, List.length_cons, List.length_nil, Nat.zero_add] using this) ?_
            rintro e w4 (⟨rfl, h1, h2, h3⟩ | ⟨rfl, ⟨q, h1, h2⟩, h3⟩)
            · have H1 := Lib.hid h1
              have H2 := Lib.hid h2
              have H3 := Lib.hid h3
              clear h1 h2 h3
              gi_wp2
              exact ⟨⟨k + 1, by omega, by go_num, by have := H1.out; rw [← HAT.out, List.append_assoc] at this; exact this, H2.out.drop, HK3.out.trans H3.out⟩, by simp [intOf]; omega⟩
            · have H1 := Lib.hid h1
              have H2 := Lib.hid h2
              have H3 := Lib.hid h3
              clear h1 h2 h3
              gi_wp2
              go_ret
              exact .inr ⟨rfl, ⟨flatTo (sawAt S m wrong first) k ++ q, by
                rw [sawL_succ]
                exact ((List.prefix_append_right_inj _).2 (HAT.out ▸ H1.out)).trans (flatTo_prefix (sawAt S m wrong first) (k := k + 1) hlt), by rw [← List.append_assoc]; exact H2.out⟩, (KeptBut.of_below ((Below.refl _ W).alloc (Nat.le_refl _) _)).trans (HK3.out.trans H3.out)⟩
      · obtain rfl : S.bars.length = k := by omega
        gi_wp2
        go_ret
        exact .inl ⟨rfl, by rw [sawL_succ]; exact hjk.out, hbk.out, (KeptBut.of_below ((Below.refl _ W).alloc (Nat.le_refl _) _)).trans hkb.out⟩
end Go.Proofs.Ytjflpmhlodgadaa
