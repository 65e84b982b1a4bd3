/-
  Links, the law's reference: Copy: an equal chain in memory of the call's own.
-/
import Derived.Test.YtgjikoebneiamaaLSrc
import Derived.Test.YtgjikoebneiamaaLFar
import Derived.Test.YtgjikoebneiamaaLWorks
import Derived.Deep.RegionHeld3
import Derived.Deep.DrawnRows
namespace Go.Proofs.Ytgjikoebneiamaa
open Go.RowKit Go.Shelf

attribute [local go_sem ↓] Go.wp_at_zero Go.wp_at_succ

theorem Try_infoDeed : (Try.prog.info? 55).map (fun i => (i.zero, i.size, i.bytes)) = some (some (.agg #[.int .i64 0, .int .i64 0, .int .i64 0, .int .i64 0, .int .i64 0]), 5, 40) := by kernel_rfl
theorem Try_infoSight : (Try.prog.info? 60).map (fun i => (i.zero, i.size, i.bytes)) = some (some (.agg #[.int .i64 0, .int .i64 0, .int .i64 0, .int .i64 0, .int .i64 0]), 5, 40) := by kernel_rfl
structure Wf (C : Chain) : Prop where
  deeds : ∀ i, i < C.deeds.length → DI64 (dnth C.deeds i)
  sights : ∀ i, i < C.sights.length → SI64 (snth C.sights i)
  wrong : I64 C.wrong
theorem ChainAt.wf {B : Nat} {w : World} {v : Value} {C : Chain} (h : ChainAt B w v C) : Wf C := by
  obtain ⟨dv, sv, _, hD, hS, hw⟩ := h
  obtain ⟨a, cap, b, off, _, hl, hm, ha, hc, hi⟩ := hD
  obtain ⟨a2, cap2, b2, off2, _, hl2, hm2, ha2, hc2, hi2⟩ := hS
  exact ⟨hi, hi2, hw⟩
/-- A chain in rows of memory of the call's own. -/
def CopyAt (lo : Nat) (w : World) (v : Value) (C : Chain) : Prop :=
  ∃ dv sv, v = .agg #[dv, sv, .int .i64 C.wrong] ∧ w.ownsRow lo 55 5 dv C.deeds.length (dcells C.deeds C.deeds.length) ∧ w.ownsRow lo 60 5 sv C.sights.length (scells C.sights C.sights.length) ∧ Wf C
theorem CopyAt.chain {lo : Nat} {w : World} {v : Value} {C : Chain} (h : CopyAt lo w v C) : ChainAt w.heap.size w v C := by
  obtain ⟨dv, sv, rfl, h1, h2, hw⟩ := h
  exact ⟨dv, sv, rfl, deeds_of_own h1 hw.deeds, sights_of_own h2 hw.sights, hw.wrong⟩
theorem own_ne {w : World} {base : Nat} {e : TypeId} {size : Nat} {v : Value} {n : Nat} {xs : List Value} (h : w.ownsRow base e size v n xs) {b : Nat} (hb : w.heap.size ≤ b ∨ b < base) : v.ownBlock ≠ some b := fun he => by
  have := h.lt b he
  omega
theorem own_below {w w' : World} {base : Nat} {e : TypeId} {size : Nat} {v : Value} {n : Nat} {xs : List Value} (h : w.ownsRow base e size v n xs) (hb : Below w.heap.size w w') : w'.ownsRow base e size v n xs :=
  h.kept (row := none) ⟨hb.os, hb.tape, hb.output, hb.size, fun k hk _ => hb.block k hk⟩ (by cases hv : v.ownBlock <;> simp)
theorem own_base {w : World} {base base' : Nat} {e : TypeId} {size : Nat} {v : Value} {n : Nat} {xs : List Value} (h : w.ownsRow base e size v n xs) (hb : base' ≤ base) : w.ownsRow base' e size v n xs := by
  refine ⟨h.1, ?_⟩
  rcases h.2 with h0 | ⟨g, cap, cur, h1, h2, h3⟩
  · exact .inl h0
  · exact .inr ⟨g, cap, cur, h1, by omega, h3⟩
theorem own_set_other {w : World} {base : Nat} {e : TypeId} {size : Nat} {v : Value} {n : Nat} {xs : List Value} (h : w.ownsRow base e size v n xs) {a : Addr} (ha : a.block < base) (u : Value) : (w.setCell a u).ownsRow base e size v n xs := ownsRow_setCell_below h ha u
theorem CopyAt.below {lo : Nat} {w w' : World} {v : Value} {C : Chain} (h : CopyAt lo w v C) (hb : Below w.heap.size w w') : CopyAt lo w' v C := by
  obtain ⟨dv, sv, rfl, h1, h2, h3⟩ := h
  exact ⟨dv, sv, rfl, own_below h1 hb, own_below h2 hb, h3⟩
theorem CopyAt.low {lo lo' : Nat} {w : World} {v : Value} {C : Chain} (h : CopyAt lo w v C) (hl : lo' ≤ lo) : CopyAt lo' w v C := by
  obtain ⟨dv, sv, rfl, h1, h2, h3⟩ := h
  exact ⟨dv, sv, rfl, own_base h1 hl, own_base h2 hl, h3⟩
theorem cell_alloc {w : World} {o : Obj} {b off : Nat} {v : Value} (h : w.cell? ⟨b, off, none⟩ = some v) (hl : b < w.heap.size) : (w.alloc o).cell? ⟨b, off, none⟩ = some v :=
  (World.cell?_of_block (w := w) (a := ⟨b, off, none⟩) (Below.heap_alloc w o b hl)).trans h
theorem frozen_alloc {w : World} {o : Obj} {b off : Nat} (h : w.frozen? ⟨b, off, none⟩ = false) (hl : b < w.heap.size) : (w.alloc o).frozen? ⟨b, off, none⟩ = false :=
  (World.frozen?_of_block (w := w) (a := ⟨b, off, none⟩) (Below.heap_alloc w o b hl)).trans h
theorem own_empty {w : World} {base g : Nat} {e : TypeId} (h : w.heap[g]? = some (.cells #[] e)) (hb : base ≤ g) (size : Nat) : w.ownsRow base e size (.slice (some ⟨g, 0, none⟩) 0 0) 0 [] :=
  ⟨by simp, .inr ⟨g, 0, #[], rfl, hb, h, Nat.zero_le _, by unfold maxLen; omega, by simp, by simp⟩⟩
theorem heap_new_set (w : World) (p : Addr) (u : Value) (o : Obj) : ((w.setCell p u).alloc o).heap[w.heap.size]? = some o := by
  have := heap_new (w.setCell p u) o
  rwa [size_setCell] at this
theorem gb1 {W w1 : World} {o : Obj} {row : Option Nat} (hg : (W.alloc o).drew.grownBy w1 row) (hr : row = some W.heap.size) : Below W.heap.size W w1 := by
  subst hr
  exact ((Below.refl _ W).alloc (Nat.le_refl _) o).drew.grown hg (by have := World.size_alloc W o; show W.heap.size ≤ (W.alloc o).heap.size; omega) (fun k e => by injection e with e; omega)
theorem gb2 {W w1 : World} {o o' : Obj} {row : Option Nat} {g : Nat} (hg : ((W.alloc o).alloc o').drew.grownBy w1 row) (hr : row = some g) (hgl : W.heap.size ≤ g) : Below W.heap.size W w1 := by
  subst hr
  exact (((Below.refl _ W).alloc (Nat.le_refl _) o).alloc (by simp) o').drew.grown hg (by show W.heap.size ≤ ((W.alloc o).alloc o').heap.size; simp; omega) (fun k e => by injection e with e; omega)
theorem two_below {B : Nat} {w w' : World} {t : Nat} {v0 v1 : Value} (h : w.cell? ⟨t, 0, none⟩ = some v0 ∧ w.cell? ⟨t, 1, none⟩ = some v1) (hb : Below B w w') (l : t < B) : w'.cell? ⟨t, 0, none⟩ = some v0 ∧ w'.cell? ⟨t, 1, none⟩ = some v1 :=
  ⟨(hb.cell (p := ⟨t, 0, none⟩) l).trans h.1, (hb.cell (p := ⟨t, 1, none⟩) l).trans h.2⟩
theorem gb3 {B : Nat} {W w1 w2 : World} {row : Option Nat} {g : Nat} (hb : Below B W w1) (hg : w1.grownBy w2 row) (hr : row = some g) (hgl : B ≤ g) (hB : B ≤ w1.heap.size) : Below B W w2 := by
  subst hr
  exact hb.grown hg hB (fun k e => by injection e with e; omega)
theorem gb4 {B : Nat} {W w1 w2 : World} {o : Obj} {row : Option Nat} {g : Nat} (hb : Below B W w1) (hg : (w1.alloc o).grownBy w2 row) (hr : row = some g) (hgl : B ≤ g) (hB : B ≤ w1.heap.size) : Below B W w2 := by
  subst hr
  exact (hb.alloc hB o).grown hg (by simp; omega) (fun k e => by injection e with e; omega)
/-- Rows of elements of two types are never one. -/
theorem own_kept_type {w w' : World} {base base' : Nat} {e e' : TypeId} {size size' : Nat} {v v' : Value} {n n' : Nat} {xs xs' : List Value} (h : w.ownsRow base e size v n xs) (h' : w.ownsRow base' e' size' v' n' xs') (hne : e ≠ e') (hg : w.grownBy w' v'.ownBlock) : w'.ownsRow base e size v n xs := by
  refine h.kept hg ?_
  rcases h.2 with ⟨rfl, _⟩ | ⟨g, cap, cur, rfl, _, hh, _⟩
  · exact .inl rfl
  · rcases h'.2 with ⟨rfl, _⟩ | ⟨g', cap', cur', rfl, _, hh', _⟩
    · exact .inr (by simp [Value.ownBlock])
    · refine .inr (fun he => ?_)
      have : g = g' := by simpa [Value.ownBlock] using he
      subst this
      rw [hh] at hh'
      injection hh' with hh'
      injection hh' with _ ht
      exact hne ht
theorem done7 {W Y w2 : World} {g p n : Nat} {v v0 v1 v2 : Value} {xs : List Value} (hb : Below W.heap.size W Y) (hY : Y.ownsRow W.heap.size 55 5 v n xs) (hE : Y.heap[g]? = some (.cells #[] 60)) (hg : W.heap.size ≤ g) (hB : W.heap.size ≤ Y.heap.size)
    (hgrow : Y.grownBy w2 (Value.slice (some ⟨g, 0, none⟩) 0 0).ownBlock) (hE2 : W.heap[p]? = some (.cells #[v0, v1, v2] 25)) (hp : p < W.heap.size) :
    Below W.heap.size W w2 ∧ w2.ownsRow W.heap.size 55 5 v n xs ∧ w2.cell? ⟨p, 0, none⟩ = some v0 ∧ w2.cell? ⟨p, 1, none⟩ = some v1 ∧ w2.cell? ⟨p, 2, none⟩ = some v2 ∧ w2.frozen? ⟨p, 0, none⟩ = false ∧ w2.frozen? ⟨p, 1, none⟩ = false := by
  have hb2 := gb3 hb hgrow rfl hg hB
  obtain ⟨⟨t0, t1, t2⟩, tf⟩ := box3f_of ((hb2.block _ hp).trans hE2)
  exact ⟨hb2, own_kept_type hY (own_empty hE hg 5) (by decide) hgrow, t0, t1, t2, tf 0, tf 1⟩
theorem keepS1 {W w1 : World} (hg : ((W.alloc (.cells #[] 55)).alloc (.cells #[] 60)).drew.grownBy w1 (Value.slice (some ⟨W.heap.size, 0, none⟩) 0 0).ownBlock) : w1.heap[W.heap.size + 1]? = some (.cells #[] 60) :=
  (hg.block (W.heap.size + 1) (show W.heap.size + 1 < ((W.alloc _).alloc _).heap.size by simp) (by simp [Value.ownBlock])).trans (heap_new1 W _ _)
theorem keepS2 {W w1 : World} (hg : ((W.alloc (.cells #[] 60)).alloc (.cells #[] 55)).drew.grownBy w1 (Value.slice (some ⟨W.heap.size + 1, 0, none⟩) 0 0).ownBlock) : w1.heap[W.heap.size]? = some (.cells #[] 60) :=
  (hg.block W.heap.size (show W.heap.size < ((W.alloc _).alloc _).heap.size by simp; omega) (by simp [Value.ownBlock])).trans (heap_old1 W _ _)
theorem own5 {w : World} {base p q : Nat} {e : TypeId} {size : Nat} {v : Value} {n : Nat} {xs : List Value} {u0 u1 u2 u3 u4 : Value} (h : w.ownsRow base e size v n xs) (hp : p < base) (hq : q < base) :
    (((((w.setCell ⟨p, 0, none⟩ u0).setCell ⟨p, 1, none⟩ u1).setCell ⟨q, 0, none⟩ u2).setCell ⟨q, 1, none⟩ u3).setCell ⟨q, 2, none⟩ u4).ownsRow base e size v n xs :=
  own_set_other (own_set_other (own_set_other (own_set_other (own_set_other h hp _) hp _) hq _) hq _) hq _
/-- What the two loads read, in every world of the statement. -/
theorem two_alloc {w : World} {t : Nat} {v0 v1 : Value} (h : w.cell? ⟨t, 0, none⟩ = some v0 ∧ w.cell? ⟨t, 1, none⟩ = some v1) (l : t < w.heap.size) (o : Obj) : (w.alloc o).cell? ⟨t, 0, none⟩ = some v0 ∧ (w.alloc o).cell? ⟨t, 1, none⟩ = some v1 :=
  ⟨cell_alloc h.1 l, cell_alloc h.2 l⟩
theorem two_grown {w w' : World} {row : Option Nat} {t : Nat} {v0 v1 : Value} (h : w.cell? ⟨t, 0, none⟩ = some v0 ∧ w.cell? ⟨t, 1, none⟩ = some v1) (l : t < w.heap.size) (hg : w.grownBy w' row) (n : row ≠ some t) : w'.cell? ⟨t, 0, none⟩ = some v0 ∧ w'.cell? ⟨t, 1, none⟩ = some v1 :=
  ⟨(hg.cell_far ⟨t, 0, none⟩ l (Ne.symm n)).trans h.1, (hg.cell_far ⟨t, 1, none⟩ l (Ne.symm n)).trans h.2⟩
theorem two_set {w : World} {t : Nat} {v0 v1 : Value} (h : w.cell? ⟨t, 0, none⟩ = some v0 ∧ w.cell? ⟨t, 1, none⟩ = some v1) (p : Addr) (u : Value) (n : p.block ≠ t) : (w.setCell p u).cell? ⟨t, 0, none⟩ = some v0 ∧ (w.setCell p u).cell? ⟨t, 1, none⟩ = some v1 :=
  ⟨(World.cell?_setCell_far w p ⟨t, 0, none⟩ u n).trans h.1, (World.cell?_setCell_far w p ⟨t, 1, none⟩ u n).trans h.2⟩

set_option maxRecDepth 100000 in
set_option maxHeartbeats 4000000 in
theorem Copy_any (v : Value) (C : Chain) (w : World) (hx : ChainAt w.heap.size w v C) (hd : C.deeds.length ≤ 3518437208780) (hs : C.sights.length ≤ 3518437208780) :
    Calls Try.prog 15 #[v] w fun e w' => ∃ u, e = .returned u ∧ CopyAt w.heap.size w' u C ∧ Below w.heap.size w w' := by
  obtain ⟨iB, hiB, hzB0, hzB1, hzB2⟩ := info_parts Try_infoDeed
  obtain ⟨iP, hiP, hzP0, hzP1, hzP2⟩ := info_parts Try_infoSight
  have hwf := hx.wf
  obtain ⟨dv, sv, rfl, hD, hS, hw⟩ := hx
  have hD' := hD
  have hS' := hS
  obtain ⟨a, cap, b, off, rfl, _⟩ := hD'
  obtain ⟨a2, cap2, b2, off2, rfl, _⟩ := hS'
  have HSD := Lib.hid (show ∀ W, Below w.heap.size w W → CellsFrom W a C.deeds.length 5 (dcells C.deeds C.deeds.length) from fun W h => from_deeds (hD.below h))
  have HSS := Lib.hid (show ∀ W, Below w.heap.size w W → CellsFrom W a2 C.sights.length 5 (scells C.sights C.sights.length) from fun W h => from_sights (hS.below h))
  have HWF := Lib.hid hwf
  clear hD hS hwf
  go_enter Try.func15, Try.ntmps15
  go_wp2_with fail
  obtain ⟨W, hW⟩ : ∃ W, W = ((w.alloc (.cells #[.slice a C.deeds.length cap, .slice a2 C.sights.length cap2, .int .i64 C.wrong] 25)).alloc (.cells #[.slice none 0 0, .slice none 0 0, .int .i64 0] 25)).alloc (.cells #[.slice a C.deeds.length cap, .slice a2 C.sights.length cap2, .int .i64 C.wrong] 25) := ⟨_, rfl⟩
  have h3 := heap3 w (.cells #[.slice a C.deeds.length cap, .slice a2 C.sights.length cap2, .int .i64 C.wrong] 25) (.cells #[.slice none 0 0, .slice none 0 0, .int .i64 0] 25) (.cells #[.slice a C.deeds.length cap, .slice a2 C.sights.length cap2, .int .i64 C.wrong] 25)
  rw [← hW] at h3 ⊢
  clear hW
  obtain ⟨e0, e1, e2, hb, hsz⟩ := h3
  have HB := Lib.hid hb
  have c0 : W.cell? ⟨w.heap.size, 0, none⟩ = some (.slice a C.deeds.length cap) ∧ W.cell? ⟨w.heap.size, 1, none⟩ = some (.slice a2 C.sights.length cap2) := ⟨(box3f_of e0).1.1, (box3f_of e0).1.2.1⟩
  have E1 := Lib.hid e1
  have E2 := Lib.hid e2
  have HSZ := Lib.hid hsz
  have hlt0 : w.heap.size + 1 + 1 < W.heap.size := by omega
  have hltw : w.heap.size ≤ W.heap.size := by omega
  have KEEP1 := Lib.hid (two_alloc c0 (by omega) (.cells #[] 55))
  have KEEP2 := Lib.hid (two_alloc c0 (by omega) (.cells #[] 60))
  have x0 := (box3f_of e2).1.1
  have xf0 := (box3f_of e2).2 0
  have xf1 := (box3f_of e2).2 1
  clear e0 e1 e2 hb hsz
  go_region_held3 (fun w' => w'.cell? ⟨w.heap.size, 0, none⟩ = some (.slice a C.deeds.length cap) ∧ w'.cell? ⟨w.heap.size, 1, none⟩ = some (.slice a2 C.sights.length cap2))
    (first
      | exact c0
      | exact KEEP1.out
      | exact KEEP2.out
      | (refine two_alloc ?_ ?_ _ <;> (first | assumption | omega | (simp; omega)))
      | exact two_below c0 hb2 (by omega)
      | exact two_below c0 hb1 (by omega)
      | (refine two_set ?_ _ _ ?_ <;> (first | assumption | omega | (simp; omega))))
    (first
      | ((refine step_onto (base := W.heap.size) (v := .slice (some ⟨W.heap.size, 0, none⟩) 0 0) (n := 0) (xs := []) (A := a) (m := C.deeds.length) (c := cap) (news := dcells C.deeds C.deeds.length) (by rfl) (.tmp 5) (.tmp 7) (by rfl) Try.underlying22 hiB hzB0 hzB1 hzB2 rfl (by decide) (by rfl) (own_empty (heap_new W _) (Nat.le_refl _) _) (by rfl) (HSD.out _ (HB.out.alloc (by omega) _).drew) (dcells_one _ _) (by unfold maxLen; omega) (by omega) (show W.heap.size ≤ (W.alloc _).heap.size by simp) ?_
          intro dA dcap w1 hown1 hgrow1 hat1
          have hb1 := gb1 hgrow1 rfl
          have hown1 : w1.ownsRow W.heap.size 55 5 (.slice dA C.deeds.length dcap) C.deeds.length (dcells C.deeds C.deeds.length) := (by simpa using hown1)
          have hl1 : W.heap.size ≤ w1.heap.size := hb1.size
          have hbw1 : Below w.heap.size w w1 := HB.out.trans (hb1.mono hltw)))
      | ((refine step_onto (base := W.heap.size) (v := .slice (some ⟨W.heap.size, 0, none⟩) 0 0) (n := 0) (xs := []) (A := a) (m := C.deeds.length) (c := cap) (news := dcells C.deeds C.deeds.length) (by rfl) (.tmp 5) (.tmp 7) (by rfl) Try.underlying22 hiB hzB0 hzB1 hzB2 rfl (by decide) (by rfl) (own_empty (heap_old1 W _ _) (Nat.le_refl _) _) (by rfl) (HSD.out _ ((HB.out.alloc (by omega) _).alloc (by simp; omega) _).drew) (dcells_one _ _) (by unfold maxLen; omega) (by omega) (show W.heap.size ≤ ((W.alloc _).alloc _).heap.size by simp; omega) ?_
          intro dA dcap w1 hown1 hgrow1 hat1
          have hb1 := gb2 hgrow1 rfl (Nat.le_refl _)
          have hown1 : w1.ownsRow W.heap.size 55 5 (.slice dA C.deeds.length dcap) C.deeds.length (dcells C.deeds C.deeds.length) := (by simpa using hown1)
          have hl1 : W.heap.size ≤ w1.heap.size := hb1.size
          have hbw1 : Below w.heap.size w w1 := HB.out.trans (hb1.mono hltw)
          have KS := keepS1 hgrow1))
      | ((refine step_onto (base := W.heap.size) (v := .slice (some ⟨W.heap.size + 1, 0, none⟩) 0 0) (n := 0) (xs := []) (A := a) (m := C.deeds.length) (c := cap) (news := dcells C.deeds C.deeds.length) (by rfl) (.tmp 5) (.tmp 7) (by rfl) Try.underlying22 hiB hzB0 hzB1 hzB2 rfl (by decide) (by rfl) (own_empty (heap_new1 W _ _) (Nat.le_succ _) _) (by rfl) (HSD.out _ ((HB.out.alloc (by omega) _).alloc (by simp; omega) _).drew) (dcells_one _ _) (by unfold maxLen; omega) (by omega) (show W.heap.size ≤ ((W.alloc _).alloc _).heap.size by simp; omega) ?_
          intro dA dcap w1 hown1 hgrow1 hat1
          have hb1 := gb2 hgrow1 rfl (Nat.le_succ _)
          have hown1 : w1.ownsRow W.heap.size 55 5 (.slice dA C.deeds.length dcap) C.deeds.length (dcells C.deeds C.deeds.length) := (by simpa using hown1)
          have hl1 : W.heap.size ≤ w1.heap.size := hb1.size
          have hbw1 : Below w.heap.size w w1 := HB.out.trans (hb1.mono hltw)
          have KS := keepS2 hgrow1))
      | ((refine step_onto (base := W.heap.size) (v := .slice (some ⟨w1.heap.size, 0, none⟩) 0 0) (n := 0) (xs := []) (A := a2) (m := C.sights.length) (c := cap2) (news := scells C.sights C.sights.length) (by rfl) (.tmp 9) (.tmp 11) (by rfl) Try.underlying23 hiP hzP0 hzP1 hzP2 rfl (by decide) (by rfl) (own_empty (heap_new w1 _) hl1 _) (by rfl) (HSS.out _ (hbw1.alloc (Nat.le_trans hltw hl1) _)) (scells_one _ _) (by unfold maxLen; omega) (by omega) (show W.heap.size ≤ (w1.alloc _).heap.size by simp; omega) ?_
          intro sA scap w2 hown2 hgrow2 hat2
          have hown2 : w2.ownsRow W.heap.size 60 5 (.slice sA C.sights.length scap) C.sights.length (scells C.sights C.sights.length) := (by simpa using hown2)
          obtain ⟨hb2, hd2, t0, t1, t2, tf0, tf1⟩ := done7 (hb1.alloc hl1 _) (hown1.alloc _) (heap_new w1 _) hl1 (by simp; omega) hgrow2 E2.out hlt0))
      | ((refine step_onto (base := W.heap.size) (v := .slice (some ⟨W.heap.size + 1, 0, none⟩) 0 0) (n := 0) (xs := []) (A := a2) (m := C.sights.length) (c := cap2) (news := scells C.sights C.sights.length) (by rfl) (.tmp 9) (.tmp 11) (by rfl) Try.underlying23 hiP hzP0 hzP1 hzP2 rfl (by decide) (by rfl) (own_empty KS (Nat.le_succ _) _) (by rfl) (HSS.out _ hbw1) (scells_one _ _) (by unfold maxLen; omega) (by omega) (hl1) ?_
          intro sA scap w2 hown2 hgrow2 hat2
          have hown2 : w2.ownsRow W.heap.size 60 5 (.slice sA C.sights.length scap) C.sights.length (scells C.sights C.sights.length) := (by simpa using hown2)
          obtain ⟨hb2, hd2, t0, t1, t2, tf0, tf1⟩ := done7 hb1 hown1 KS (Nat.le_succ _) hl1 hgrow2 E2.out hlt0))
      | ((refine step_onto (base := W.heap.size) (v := .slice (some ⟨W.heap.size, 0, none⟩) 0 0) (n := 0) (xs := []) (A := a2) (m := C.sights.length) (c := cap2) (news := scells C.sights C.sights.length) (by rfl) (.tmp 9) (.tmp 11) (by rfl) Try.underlying23 hiP hzP0 hzP1 hzP2 rfl (by decide) (by rfl) (own_empty KS (Nat.le_refl _) _) (by rfl) (HSS.out _ hbw1) (scells_one _ _) (by unfold maxLen; omega) (by omega) (hl1) ?_
          intro sA scap w2 hown2 hgrow2 hat2
          have hown2 : w2.ownsRow W.heap.size 60 5 (.slice sA C.sights.length scap) C.sights.length (scells C.sights C.sights.length) := (by simpa using hown2)
          obtain ⟨hb2, hd2, t0, t1, t2, tf0, tf1⟩ := done7 hb1 hown1 KS (Nat.le_refl _) hl1 hgrow2 E2.out hlt0)))
  all_goals
    clear KEEP1 KEEP2
    obtain ⟨⟨z0, z1, z2⟩, zf⟩ := box3f_of ((hb2.block (w.heap.size + 1) (by omega)).trans E1.out)
    have zf0 := zf 0
    have zf1 := zf 1
    have zf2 := zf 2
    have HB2 := Lib.hid hb2
    have HD2 := Lib.hid hd2
    have HO2 := Lib.hid hown2
    clear zf hb2 hd2 hown2
    go_wp2
    refine bodyPost_ret (v := .agg #[.slice dA C.deeds.length dcap, .slice sA C.sights.length scap, .int .i64 C.wrong]) (by simp [results, Try.results15, go_sem, z0, z1, z2]) rfl ⟨_, rfl, ?_, ?_⟩
    · exact ⟨_, _, rfl, own_base (own5 HD2.out (by omega) (by omega)) hltw, own_base (own5 HO2.out (by omega) (by omega)) hltw, HWF.out⟩
    · exact below_setCell (below_setCell (below_setCell (below_setCell (below_setCell (HB.out.trans (HB2.out.mono hltw)) (by omega)) (by omega)) (by omega)) (by omega)) (by omega)

end Go.Proofs.Ytgjikoebneiamaa
