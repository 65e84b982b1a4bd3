/-
  Links: a chain in a variable whose deeds and sights lie in rows of the call's own; one more deed.
-/
import Derived.Test.YthclinhikhinpaaLThree
import Derived.Test.YthclinhikhinpaaLLaterM
namespace Go.Proofs.Ythclinhikhinpaa
open Go.RowKit

structure Row3 (lo : Nat) (W : World) (b : Nat) (dv sv : Value) (C : Chain) : Prop where
  blk : W.heap[b]? = some (.cells #[dv, sv, .int .i64 C.wrong] 25)
  rd : W.ownsRow lo 55 5 dv C.deeds.length (dcells C.deeds C.deeds.length)
  rs : W.ownsRow lo 60 5 sv C.sights.length (scells C.sights C.sights.length)
  wf : Wf C
theorem Row3.of {lo : Nat} {W : World} {b : Nat} {dv sv : Value} {C : Chain} (hb : W.heap[b]? = some (.cells #[dv, sv, .int .i64 C.wrong] 25)) (h : CopyAt lo W (.agg #[dv, sv, .int .i64 C.wrong]) C) : Row3 lo W b dv sv C := by
  obtain ⟨dv', sv', e, h1, h2, h3⟩ := h
  injection e with e
  simp only [Array.mk.injEq, List.cons.injEq, and_true] at e
  obtain ⟨rfl, rfl⟩ := e
  exact ⟨hb, h1, h2, h3⟩
theorem Row3.next {lo : Nat} {W W' : World} {b : Nat} {dv sv : Value} {C : Chain} (h : Row3 lo W b dv sv C) (hb : Below W.heap.size W W') : Row3 lo W' b dv sv C :=
  ⟨(hb.block _ (heap_lt h.blk)).trans h.blk, own_below h.rd hb, own_below h.rs hb, h.wf⟩
/-- Another row of deeds grows. -/
theorem Row3.grown {lo lo' n' : Nat} {W W' : World} {b : Nat} {dv sv v' : Value} {C : Chain} {xs' : List Value} (h : Row3 lo W b dv sv C) (h' : W.ownsRow lo' 55 5 v' n' xs') (hne : ∀ g, v'.ownBlock = some g → dv.ownBlock ≠ some g) (hg : W.grownBy W' v'.ownBlock) : Row3 lo W' b dv sv C := by
  have hb : v'.ownBlock ≠ some b := by
    intro he
    rcases h'.2 with ⟨rfl, _⟩ | ⟨g, cap, cur, rfl, _, hh, _⟩
    · cases he
    · have : g = b := by simpa [Value.ownBlock] using he
      subst this
      have := h.blk
      rw [hh] at this
      injection this with this
      injection this with _ ht
      exact absurd ht (by decide)
  refine ⟨(hg.block _ (heap_lt h.blk) (fun e => hb e.symm)).trans h.blk, h.rd.kept hg ?_, own_kept_type h.rs h' (by decide) hg, h.wf⟩
  cases hd : dv.ownBlock with
  | none => exact .inl rfl
  | some g => exact .inr (fun e => hne g e.symm hd)
/-- A store into the variable of another chain. -/
theorem Row3.other {lo : Nat} {W : World} {b b' o : Nat} {dv sv u : Value} {C : Chain} {cs : Array Value} (h : Row3 lo W b dv sv C) (hb : W.heap[b']? = some (.cells cs 25)) (hne : b' ≠ b) : Row3 lo (W.setCell ⟨b', o, none⟩ u) b dv sv C :=
  ⟨(heap_setCell_other hne).trans h.blk, own_setBox h.rd hb (by decide), own_setBox h.rs hb (by decide), h.wf⟩
/-- One more deed: the row has grown, and the variable holds it. -/
theorem Row3.more {lo : Nat} {W W' : World} {b : Nat} {dv sv q : Value} {C : Chain} {d : Deed} (h : Row3 lo W b dv sv C) (hd : DI64 d) (hg : W.grownBy W' dv.ownBlock)
    (hr : W'.ownsRow lo 55 5 q (C.deeds.length + 1) (dcells C.deeds C.deeds.length ++ [.int .i64 d.what, .int .i64 d.at_, .int .i64 d.from_, .int .i64 d.bar, .int .i64 d.smith])) : Row3 lo (W'.setCell ⟨b, 0, none⟩ q) b q sv (plusD C d) := by
  have hb : dv.ownBlock ≠ some b := by
    intro he
    rcases h.rd.2 with ⟨rfl, _⟩ | ⟨g, cap, cur, rfl, _, hh, _⟩
    · cases he
    · have : g = b := by simpa [Value.ownBlock] using he
      subst this
      have := h.blk
      rw [hh] at this
      injection this with this
      injection this with _ ht
      exact absurd ht (by decide)
  have hb2 := (hg.block _ (heap_lt h.blk) (fun e => hb e.symm)).trans h.blk
  refine ⟨?_, ?_, own_setBox (own_kept_type h.rs h.rd (by decide) hg) hb2 (by decide), ?_⟩
  · rw [heap_setCell_same hb2]; rfl
  · have := own_setBox (o := 0) (u := q) hr hb2 (by decide)
    show (W'.setCell ⟨b, 0, none⟩ q).ownsRow lo 55 5 q (C.deeds ++ [d]).length (dcells (C.deeds ++ [d]) (C.deeds ++ [d]).length)
    rw [plus_len, dcells_snoc]
    exact this
  · refine ⟨fun i hi => ?_, h.wf.sights, h.wf.wrong⟩
    show DI64 (dnth (C.deeds ++ [d]) i)
    have hi : i < C.deeds.length + 1 := by rw [← plus_len (ds := C.deeds) (d := d)]; exact hi
    by_cases e : i < C.deeds.length
    · rw [plus_old e]; exact h.wf.deeds i e
    · obtain rfl : i = C.deeds.length := by omega
      rw [plus_new]; exact hd
theorem Row3.chain {lo : Nat} {W : World} {b : Nat} {dv sv : Value} {C : Chain} (h : Row3 lo W b dv sv C) : ChainAt W.heap.size W (.agg #[dv, sv, .int .i64 C.wrong]) C :=
  ⟨dv, sv, rfl, deeds_of_own h.rd h.wf.deeds, sights_of_own h.rs h.wf.sights, h.wf.wrong⟩
theorem Row3.low {lo : Nat} {W : World} {b : Nat} {dv sv : Value} {C : Chain} (h : Row3 lo W b dv sv C) : ∀ g, dv.ownBlock = some g → lo ≤ g ∧ g < W.heap.size := h.rd.lt
/-- A row that has grown stays apart from another. -/
theorem apart_grown {W : World} {dv q v' : Value} {lo n : Nat} {xs : List Value} (hat : q.ownBlock = dv.ownBlock ∨ q.ownBlock = some W.heap.size) (hne : ∀ g, dv.ownBlock = some g → v'.ownBlock ≠ some g) (h' : W.ownsRow lo 55 5 v' n xs) : ∀ g, q.ownBlock = some g → v'.ownBlock ≠ some g := fun g hq hv => by
  rcases hat with h | h
  · exact hne g (h ▸ hq) hv
  · rw [h] at hq
    injection hq with hq
    have := (h'.lt g hv).2
    omega
theorem apart_symm {u v : Value} (h : ∀ g, u.ownBlock = some g → v.ownBlock ≠ some g) : ∀ g, v.ownBlock = some g → u.ownBlock ≠ some g := fun g hv hu => h g hu hv

end Go.Proofs.Ythclinhikhinpaa
