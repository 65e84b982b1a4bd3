/-
  Walks: the reference's Copy: an equal store in memory of the call's own.
-/
import Derived.Test.YtjflpmhlodgadaaSrc
import Derived.Test.YtjflpmhlodgadaaSaw
import Derived.Test.YtjflpmhlodgadaaBase2
import Derived.Deep.RegionHeld3
import Derived.Deep.DrawnRows
namespace Go.Proofs.Ytjflpmhlodgadaa
open Go.RowKit Go.Shelf

attribute [local go_sem ↓] Go.wp_at_zero Go.wp_at_succ

theorem Try_infoBar : (Try.prog.info? 53).map (fun i => (i.zero, i.size, i.bytes)) = some (some (.agg #[.int .i64 0, .int .i64 0]), 2, 16) := by kernel_rfl
theorem Try_infoPiece : (Try.prog.info? 60).map (fun i => (i.zero, i.size, i.bytes)) = some (some (.agg #[.int .i64 0, .slice none 0 0]), 2, 32) := by kernel_rfl

/-- No more than forty of each. -/
structure Few (S : Store) : Prop where
  nb : S.bars.length ≤ 40
  np : S.pieces.length ≤ 40
  nh : ∀ i, i < S.pieces.length → (pnth S.pieces i).heats.length ≤ 40

theorem map_one (xs : List Int) : ∀ u ∈ xs.map (Value.int .i64), u.oneCell' = true := fun u hu => by
  obtain ⟨x, _, rfl⟩ := List.mem_map.1 hu
  rfl

/-- What lies in memory while the pieces are copied: k of them are. -/
structure Copying (lo : Nat) (S : Store) (a1 a2 bv : Value) (k : Nat) (wr : World) : Prop where
  box : wr.heap[lo]? = some (.cells #[a1, .int .i64 S.kerf, a2, .int .i64 S.wrong] 25)
  res : wr.heap[lo + 1]? = some (.cells #[.slice none 0 0, .int .i64 0, .slice none 0 0, .int .i64 0] 25)
  rest : ∃ pv hs, wr.heap[lo + 1 + 1]? = some (.cells #[bv, .int .i64 S.kerf, pv, .int .i64 S.wrong] 25) ∧ wr.ownsRow (lo + 3) 60 2 pv k (pcells S.pieces hs k) ∧
    ∀ i, i < k → wr.ownsRow (lo + 3) 3 1 (hs i) (pnth S.pieces i).heats.length ((pnth S.pieces i).heats.map (Value.int .i64))
  bars : wr.ownsRow (lo + 3) 53 2 bv S.bars.length (bcells S.bars S.bars.length)

theorem own_one {w : World} {base : Nat} {e : TypeId} {size : Nat} {v : Value} {n : Nat} {xs : List Value} (h : w.ownsRow base e size v n xs) : v.oneCell' = true := by
  rcases h.2 with ⟨rfl, _⟩ | ⟨g, cap, cur, rfl, _⟩ <;> rfl
theorem own_ne {w : World} {base : Nat} {e : TypeId} {size : Nat} {v : Value} {n : Nat} {xs : List Value} (h : w.ownsRow base e size v n xs) {b : Nat} (hb : w.heap.size ≤ b ∨ b < base) : v.ownBlock ≠ some b := fun he => by
  have := h.lt b he
  omega
theorem own_kept {w w' : World} {base : Nat} {e : TypeId} {size : Nat} {v : Value} {n : Nat} {xs : List Value} (h : w.ownsRow base e size v n xs) {row : Option Nat} (hg : w.grownBy w' row) (hr : ∀ b, row = some b → w.heap.size ≤ b ∨ b < base) : w'.ownsRow base e size v n xs :=
  h.kept hg (by
    cases hv : v.ownBlock with
    | none => exact .inl rfl
    | some b => exact .inr (fun he => own_ne h (hr b he.symm) hv))
/-- Rows of elements of two types are never one. -/
theorem own_kept_type {w w' : World} {base base' : Nat} {e e' : TypeId} {size size' : Nat} {v v' : Value} {n n' : Nat} {xs xs' : List Value} (h : w.ownsRow base e size v n xs) (h' : w.ownsRow base' e' size' v' n' xs') (hne : e ≠ e') (hg : w.grownBy w' v'.ownBlock) : w'.ownsRow base e size v n xs := by
  refine h.kept hg ?_
  rcases h.2 with ⟨rfl, _⟩ | ⟨g, cap, cur, rfl, _, hh, _⟩
  · exact .inl rfl
  · rcases h'.2 with ⟨rfl, _⟩ | ⟨g', cap', cur', rfl, _, hh', _⟩
    · exact .inr (by simp [Value.ownBlock])
    · refine .inr (fun he => ?_)
      have : g = g' := by simpa [Value.ownBlock] using he
      subst this
      rw [hh] at hh'
      injection hh' with hh'
      injection hh' with _ ht
      exact hne ht
theorem own_set_other {w : World} {base : Nat} {e : TypeId} {size : Nat} {v : Value} {n : Nat} {xs : List Value} (h : w.ownsRow base e size v n xs) {a : Addr} (ha : a.block < base) (u : Value) : (w.setCell a u).ownsRow base e size v n xs := ownsRow_setCell_below h ha u
theorem box4f_of {w : World} {b : Nat} {v0 v1 v2 v3 : Value} {t : TypeId} (e : w.heap[b]? = some (.cells #[v0, v1, v2, v3] t)) :
    (w.cell? ⟨b, 0, none⟩ = some v0 ∧ w.cell? ⟨b, 1, none⟩ = some v1 ∧ w.cell? ⟨b, 2, none⟩ = some v2 ∧ w.cell? ⟨b, 3, none⟩ = some v3) ∧ ∀ j, w.frozen? ⟨b, j, none⟩ = false := by
  refine ⟨⟨?_, ?_, ?_, ?_⟩, fun j => ?_⟩ <;> simp [World.cell?, World.frozen?, e]

theorem frozen_alloc {w : World} {o : Obj} {b off : Nat} (h : w.frozen? ⟨b, off, none⟩ = false) (hl : b < w.heap.size) : (w.alloc o).frozen? ⟨b, off, none⟩ = false :=
  (World.frozen?_of_block (w := w) (a := ⟨b, off, none⟩) (Below.heap_alloc w o b hl)).trans h
theorem frozen_alloc_drew {w : World} {o : Obj} {b off : Nat} (h : w.frozen? ⟨b, off, none⟩ = false) (hl : b < w.heap.size) : (w.alloc o).drew.frozen? ⟨b, off, none⟩ = false := frozen_alloc h hl

/-- The cells that the round's statement reads, but the one that it writes. -/
theorem held_alloc {w : World} {t b o1 o2 : Nat} {v2 v3 v4 : Value} (h2 : w.cell? ⟨t, 2, none⟩ = some v2) (h3 : w.cell? ⟨b, o1, none⟩ = some v3) (h4 : w.cell? ⟨b, o2, none⟩ = some v4)
    (l2 : t < w.heap.size) (l3 : b < w.heap.size) (o : Obj) :
    (w.alloc o).cell? ⟨t, 2, none⟩ = some v2 ∧ (w.alloc o).cell? ⟨b, o1, none⟩ = some v3 ∧ (w.alloc o).cell? ⟨b, o2, none⟩ = some v4 :=
  have hc : ∀ {b o' : Nat} {v : Value}, w.cell? ⟨b, o', none⟩ = some v → b < w.heap.size → (w.alloc o).cell? ⟨b, o', none⟩ = some v := fun {b o' _} h l => (World.cell?_of_block (w := w) (a := ⟨b, o', none⟩) (Below.heap_alloc w o b l)).trans h
  ⟨hc h2 l2, hc h3 l3, hc h4 l3⟩
theorem held_grown {w w' : World} {row : Option Nat} {t b o1 o2 : Nat} {v2 v3 v4 : Value} (h2 : w.cell? ⟨t, 2, none⟩ = some v2) (h3 : w.cell? ⟨b, o1, none⟩ = some v3) (h4 : w.cell? ⟨b, o2, none⟩ = some v4)
    (l2 : t < w.heap.size) (l3 : b < w.heap.size) (hg : w.grownBy w' row) (n2 : row ≠ some t) (n3 : row ≠ some b) :
    w'.cell? ⟨t, 2, none⟩ = some v2 ∧ w'.cell? ⟨b, o1, none⟩ = some v3 ∧ w'.cell? ⟨b, o2, none⟩ = some v4 :=
  ⟨(hg.cell_far ⟨t, 2, none⟩ l2 (Ne.symm n2)).trans h2, (hg.cell_far ⟨b, o1, none⟩ l3 (Ne.symm n3)).trans h3, (hg.cell_far ⟨b, o2, none⟩ l3 (Ne.symm n3)).trans h4⟩
theorem held_set {w : World} {t b o1 o2 : Nat} {v2 v3 v4 : Value} (h2 : w.cell? ⟨t, 2, none⟩ = some v2) (h3 : w.cell? ⟨b, o1, none⟩ = some v3) (h4 : w.cell? ⟨b, o2, none⟩ = some v4)
    (p : Addr) (u : Value) (n2 : p.block ≠ t) (n3 : p.block ≠ b) :
    (w.setCell p u).cell? ⟨t, 2, none⟩ = some v2 ∧ (w.setCell p u).cell? ⟨b, o1, none⟩ = some v3 ∧ (w.setCell p u).cell? ⟨b, o2, none⟩ = some v4 :=
  ⟨(World.cell?_setCell_far w p ⟨t, 2, none⟩ u n2).trans h2, (World.cell?_setCell_far w p ⟨b, o1, none⟩ u n3).trans h3, (World.cell?_setCell_far w p ⟨b, o2, none⟩ u n3).trans h4⟩
theorem cell_alloc {w : World} {o : Obj} {b off : Nat} {v : Value} (h : w.cell? ⟨b, off, none⟩ = some v) (hl : b < w.heap.size) : (w.alloc o).cell? ⟨b, off, none⟩ = some v :=
  (World.cell?_of_block (w := w) (a := ⟨b, off, none⟩) (Below.heap_alloc w o b hl)).trans h

structure Wf (S : Store) : Prop where
  bars : ∀ x ∈ S.bars, I64 x.heat ∧ I64 x.long
  pieces : ∀ x ∈ S.pieces, I64 x.long ∧ ∀ h ∈ x.heats, I64 h
  kerf : I64 S.kerf
  wrong : I64 S.wrong
theorem StoreAt.wf {B : Nat} {w : World} {v : Value} {S : Store} (h : StoreAt B w v S) : Wf S := by
  obtain ⟨bv, pv, _, hB, hP, wk, ww⟩ := h
  obtain ⟨a, cap, b, off, _, hl, hm, ha, hc, hw⟩ := hB
  obtain ⟨a2, cap2, b2, off2, _, hl2, hm2, ha2, hc2, hw2⟩ := hP
  refine ⟨hw, fun x hx => ⟨hw2 x hx, ?_⟩, wk, ww⟩
  obtain ⟨i, hi, rfl⟩ := List.getElem_of_mem hx
  obtain ⟨hv, _, hI⟩ := (hc2 i hi).2
  obtain ⟨_, _, _, _, _, _, _, _, _, hw3⟩ := hI
  have : pnth S.pieces i = S.pieces[i] := by simp [pnth, hi]
  rwa [this] at hw3
theorem own_below {w w' : World} {base : Nat} {e : TypeId} {size : Nat} {v : Value} {n : Nat} {xs : List Value} (h : w.ownsRow base e size v n xs) (hb : Below w.heap.size w w') : w'.ownsRow base e size v n xs :=
  h.kept (row := none) ⟨hb.os, hb.tape, hb.output, hb.size, fun k hk _ => hb.block k hk⟩ (by cases hv : v.ownBlock <;> simp)
theorem own_base {w : World} {base base' : Nat} {e : TypeId} {size : Nat} {v : Value} {n : Nat} {xs : List Value} (h : w.ownsRow base e size v n xs) (hb : base' ≤ base) : w.ownsRow base' e size v n xs := by
  refine ⟨h.1, ?_⟩
  rcases h.2 with h0 | ⟨g, cap, cur, h1, h2, h3⟩
  · exact .inl h0
  · exact .inr ⟨g, cap, cur, h1, by omega, h3⟩
theorem pcells_congr {ps : List Piece} {hs hs' : Nat → Value} : ∀ {k : Nat}, (∀ i, i < k → hs i = hs' i) → pcells ps hs k = pcells ps hs' k
  | 0, _ => rfl
  | k + 1, h => by simp only [pcells]; rw [pcells_congr (fun i hi => h i (by omega)), h k (by omega)]
theorem copy_step {lo k : Nat} {S : Store} {a1 a2 bv pv hv q : Value} {hs : Nat → Value} {wr W1 w2 w3 : World} {o : Obj}
    (hbox : wr.heap[lo]? = some (.cells #[a1, .int .i64 S.kerf, a2, .int .i64 S.wrong] 25)) (hres : wr.heap[lo + 1]? = some (.cells #[.slice none 0 0, .int .i64 0, .slice none 0 0, .int .i64 0] 25))
    (ho : wr.heap[lo + 1 + 1]? = some (.cells #[bv, .int .i64 S.kerf, pv, .int .i64 S.wrong] 25)) (hpv : wr.ownsRow (lo + 3) 60 2 pv k (pcells S.pieces hs k))
    (hhs : ∀ i, i < k → wr.ownsRow (lo + 3) 3 1 (hs i) (pnth S.pieces i).heats.length ((pnth S.pieces i).heats.map (Value.int .i64))) (hbv : wr.ownsRow (lo + 3) 53 2 bv S.bars.length (bcells S.bars S.bars.length))
    (hb1 : Below wr.heap.size wr W1) (hs1 : W1.heap.size = wr.heap.size + 1) (hgrow2 : W1.grownBy w2 (some wr.heap.size)) (hown2 : w2.ownsRow wr.heap.size 3 1 hv (pnth S.pieces k).heats.length ((pnth S.pieces k).heats.map (Value.int .i64)))
    (hgrow3 : (w2.alloc o).grownBy w3 pv.ownBlock) (hown3 : w3.ownsRow (lo + 3) 60 2 q (k + 1) (pcells S.pieces hs k ++ [.int .i64 (pnth S.pieces k).long, hv])) :
    Copying lo S a1 a2 bv (k + 1) (w3.setCell ⟨lo + 1 + 1, 2, none⟩ q) ∧ Below lo wr (w3.setCell ⟨lo + 1 + 1, 2, none⟩ q) := by
  have hl2 : lo + 1 + 1 < wr.heap.size := (Array.getElem?_eq_some_iff.1 ho).1
  have hsz2 := hgrow2.size
  have hpv2 : w2.ownsRow (lo + 3) 60 2 pv k (pcells S.pieces hs k) := (own_below hpv hb1).kept hgrow2 (.inr (own_ne hpv (.inl (Nat.le_refl _))))
  have hold : ∀ j, j < wr.heap.size → pv.ownBlock ≠ some j → w3.heap[j]? = wr.heap[j]? := fun j hj hn =>
    (hgrow3.block j (by simp; omega) (Ne.symm hn)).trans ((Below.heap_alloc _ _ _ (by omega)).trans ((hgrow2.block j (by omega) (by simp; omega)).trans (hb1.block j hj)))
  have n0 : ∀ j, j < lo + 3 → pv.ownBlock ≠ some j := fun j hj => own_ne hpv (.inr hj)
  have hkeep : ∀ {e : TypeId} {v : Value} {n size : Nat} {xs : List Value}, e ≠ 60 → wr.ownsRow (lo + 3) e size v n xs → (w3.setCell ⟨lo + 1 + 1, 2, none⟩ q).ownsRow (lo + 3) e size v n xs := fun {e v n size xs} hne h =>
    own_set_other (own_kept_type ((((own_below h hb1).kept hgrow2 (.inr (own_ne h (.inl (Nat.le_refl _))))).alloc o)) (hpv2.alloc o) hne hgrow3) (by simp) _
  refine ⟨⟨?_, ?_, ⟨q, fun i => if i = k then hv else hs i, ?_, ?_, fun i hi => ?_⟩, hkeep (by decide) hbv⟩, ?_⟩
  · exact heap_set_other _ ((hold _ (by omega) (n0 _ (by omega))).trans hbox) (by omega)
  · exact heap_set_other _ ((hold _ (by omega) (n0 _ (by omega))).trans hres) (by omega)
  · exact heap_set _ ((hold _ (by omega) (n0 _ (by omega))).trans ho)
  · have e : pcells S.pieces (fun i => if i = k then hv else hs i) (k + 1) = pcells S.pieces hs k ++ [.int .i64 (pnth S.pieces k).long, hv] := by
      simp only [pcells]
      rw [pcells_congr (hs' := hs) (fun i hi => if_neg (by omega))]
      simp
    rw [e]
    exact own_set_other hown3 (by simp) _
  · by_cases e : i = k
    · subst e
      simp only [if_true]
      exact own_set_other (own_kept_type (own_base (hown2.alloc o) (by omega)) (hpv2.alloc o) (by decide) hgrow3) (by simp) _
    · simp only [if_neg e]
      exact hkeep (by decide) (hhs i (by omega))
  · refine Below.setCell ⟨?_, ?_, ?_, ?_, fun j hj => hold j (by omega) (n0 j (by omega))⟩ (by simp; omega) _
    · exact hgrow3.os.trans (hgrow2.os.trans hb1.os)
    · exact hgrow3.tape.trans (hgrow2.tape.trans hb1.tape)
    · exact hgrow3.output.trans (hgrow2.output.trans hb1.output)
    · have := hgrow3.size; simp at this; omega

/-- The load of the variable that the round's last store writes: kept behind a name, for it can't be taken first. -/
def lateLoad : Op := Op.load 23 (Operand.tmp 19)
theorem lateLoad_in : Op.load 23 (Operand.tmp 19) = lateLoad := rfl
theorem lateLoad_out : lateLoad = Op.load 23 (Operand.tmp 19) := rfl
attribute [local go_sem] lateLoad_out

set_option maxRecDepth 100000 in
set_option maxHeartbeats 4000000 in
theorem Copy_any (v : Value) (S : Store) (w : World) (hx : StoreAt w.heap.size w v S) (hF : Few S) :
    Calls Try.prog 35 #[v] w fun e w' => ∃ u, e = .returned u ∧ CopyAt w.heap.size w' u S ∧ Below w.heap.size w w' := by
  have hx' := hx
  obtain ⟨iB, hiB, hzB0, hzB1, hzB2⟩ := info_parts Try_infoBar
  obtain ⟨iP, hiP, hzP0, hzP1, hzP2⟩ := info_parts Try_infoPiece
  obtain ⟨i0, hi, hz0, hz1, hz2⟩ := info_parts Try_infoInt
  obtain ⟨a, cap1, b1, off, a2, cap2, b2, off2, rfl, hm, hm2, HA, HC, HA2, HC2⟩ := hx.opened
  have hbars : BarsAt w.heap.size w (.slice a S.bars.length cap1) S.bars := by
    obtain ⟨bv, pv, he, h1, _⟩ := hx'
    injection he with he
    injection he with he
    injection he with he
    subst he
    exact h1
  have HBA := Lib.hid hbars
  have HX := Lib.hid hx'
  have HFW := Lib.hid hF
  have hnb := hF.nb
  have hnp := hF.np
  clear hx hx' hbars hF HA HC
  go_enter Try.func35, Try.ntmps35
  go_wp2_with (at_builtin; go_loud (refine wpList_onto (base := w.heap.size + 3) (v := .slice (some ⟨w.heap.size + 1 + 1 + 1, 0, none⟩) 0 0) (n := 0) (xs := []) (A := a) (m := S.bars.length) (c := cap1) (news := bcells S.bars S.bars.length) rfl (.tmp 6) (.tmp 8) rfl Try.underlying22 hiB hzB0 hzB1 hzB2 rfl (by decide) rfl ?c0 rfl ?c1 (bcells_one S.bars S.bars.length) ?c3 ?c4 ?c5 ?_))
  case c3 => unfold maxLen; omega
  case c4 => omega
  case c5 => simp
  case c0 =>
    have h := World.ownsRow_made (base := w.heap.size + 3) (e := 53) (size := 2) (((w.alloc (.cells #[.slice a S.bars.length cap1, .int .i64 S.kerf, .slice a2 S.pieces.length cap2, .int .i64 S.wrong] 25)).alloc (.cells #[.slice none 0 0, .int .i64 0, .slice none 0 0, .int .i64 0] 25)).alloc (.cells #[.slice a S.bars.length cap1, .int .i64 S.kerf, .slice a2 S.pieces.length cap2, .int .i64 S.wrong] 25)) #[] 0 (by simp) (by unfold maxLen; omega) rfl
    simpa only [World.size_alloc] using h
  case c1 =>
    exact from_bars (HBA.out.below ((below_at3 w _ _ _).alloc (by simp; omega) _))
  intro bA bcap w1 hown hgrow _
  try rw [Nat.zero_add] at hown
  try rw [List.nil_append] at hown
  have hh := heap_at3 w (.cells #[.slice a S.bars.length cap1, .int .i64 S.kerf, .slice a2 S.pieces.length cap2, .int .i64 S.wrong] 25) (.cells #[.slice none 0 0, .int .i64 0, .slice none 0 0, .int .i64 0] 25) (.cells #[.slice a S.bars.length cap1, .int .i64 S.kerf, .slice a2 S.pieces.length cap2, .int .i64 S.wrong] 25)
  have hsz := hgrow.size
  simp only [World.size_alloc] at hsz
  have g0 := (hgrow.block w.heap.size (by simp <;> omega) (by simp [Value.ownBlock, Nat.add_assoc])).trans ((Below.heap_alloc _ _ _ (by simp <;> omega)).trans hh.1)
  have g1 := (hgrow.block (w.heap.size + 1) (by simp) (by simp [Value.ownBlock])).trans ((Below.heap_alloc _ _ _ (by simp)).trans hh.2.1)
  have g2 := (hgrow.block (w.heap.size + 1 + 1) (by simp) (by simp [Value.ownBlock])).trans ((Below.heap_alloc _ _ _ (by simp)).trans hh.2.2)
  have hb1 : Below w.heap.size w w1 := ((below_at3 w _ _ _).alloc (by simp; omega) _).grown hgrow (by simp; omega) (fun k e => by simp [Value.ownBlock] at e <;> omega)
  have HOWN := Lib.hid hown
  have HB1 := Lib.hid hb1
  have G0 := Lib.hid g0
  have G1 := Lib.hid g1
  have G2 := Lib.hid g2
  obtain ⟨⟨x0, x1, x2, x3⟩, xf⟩ := box4f_of g2
  have xf0 := xf 0
  have xf2 := xf 2
  clear xf hh hown hgrow hb1 g0 g1 g2
  go_wp2
  go_loopw [4] (fun i wr => ∃ k : Nat, k ≤ S.pieces.length ∧ i = .int .i64 k ∧ Hid (Copying w.heap.size S (.slice a S.bars.length cap1) (.slice a2 S.pieces.length cap2) (.slice bA S.bars.length bcap) k wr) ∧ Hid (Below w.heap.size w wr)) (fun i _ => S.pieces.length - (intOf i).toNat)
  case atStart =>
    refine ⟨0, Nat.zero_le _, rfl, ⟨?_, ?_, ?_, ?_⟩, ?_⟩
    · exact heap_set_other _ (heap_set_other _ G0.out (by omega)) (by omega)
    · exact heap_set_other _ (heap_set_other _ G1.out (by omega)) (by omega)
    · exact ⟨_, fun _ => undef, heap_set _ (heap_set _ G2.out), World.ownsRow_nil _ _ _ _, fun i hi => by omega⟩
    · exact own_set_other (own_set_other HOWN.out (by simp) _) (by simp) _
    · exact (HB1.out.setCell (by simp; omega) _).setCell (by simp; omega) _
  case round =>
    obtain ⟨k, hk, rfl, hcop, hbw⟩ := hrel
    clear x0 x1 x2 x3 xf0 xf2
    obtain ⟨r0, r1, ⟨pv, hs, r2, r3, r4⟩, r5⟩ := hcop.out
    obtain ⟨pA, pcap, rfl, _⟩ := own_form r3
    obtain ⟨⟨z0, z1, z2, z3⟩, zf⟩ := box4f_of r1
    have zf0 := zf 0
    have zf1 := zf 1
    have zf2 := zf 2
    have zf3 := zf 3
    obtain ⟨⟨c0, c1, c2, c3⟩, _⟩ := box4f_of r0
    obtain ⟨⟨y0, y1, y2, y3⟩, yf⟩ := box4f_of r2
    have yf2 := yf 2
    have hbsz : w.heap.size + 3 ≤ wr.heap.size := by have := (Array.getElem?_eq_some_iff.1 r2).1; omega
    have R0 := Lib.hid r0
    have R1 := Lib.hid r1
    have R2 := Lib.hid r2
    have R3 := Lib.hid r3
    have R4 := Lib.hid r4
    have R5 := Lib.hid r5
    clear r0 r1 r2 r3 r4 r5 yf zf hcop
    by_cases hlt : k < S.pieces.length
    · obtain ⟨rfl, hb⟩ := HA2.out (by omega)
      have d0 := (hbw.out.cell (p := ⟨b2, off2 + k * 2, none⟩) hb).trans (HC2.out k hlt).1
      obtain ⟨hv, d1, hI⟩ := (HC2.out k hlt).2
      have d1 := (hbw.out.cell (p := ⟨b2, off2 + k * 2 + 1, none⟩) hb).trans d1
      have hI := hI.below hbw.out
      have hheats := HFW.out.nh k hlt
      obtain ⟨a3, cap3, b3, off3, rfl, hm3, _⟩ := hI.opened
      have HI := Lib.hid hI
      clear hI
      have hi0 : (0 : Int) ≤ (k : Int) := Int.natCast_nonneg _
      have hi1 : (k : Int) < (S.pieces.length : Int) := by omega
      have hpn := own_ne R3.out (b := w.heap.size + 1 + 1) (.inr (by omega))
      have hpn0 := own_ne R3.out (b := w.heap.size) (.inr (by omega))
      have hpnw := own_ne R3.out (b := wr.heap.size) (.inl (Nat.le_refl _))
      have hpn2 := own_ne R3.out (b := b2) (.inr (by omega))
      clear z0 z1 z2 z3 zf0 zf1 zf2 zf3 c0 c1 c3 y0 y1 y3
      have hsrc : ∀ w', Below w.heap.size wr w' → CellsFrom w' a3 (pnth S.pieces k).heats.length 1 ((pnth S.pieces k).heats.map (Value.int .i64)) := fun w' h => from_ints (HI.out.below h)
      have HSRC := Lib.hid hsrc
      have KEEP1 := Lib.hid (held_alloc c2 d0 d1 (by omega) (by omega) (.cells #[] 3))
      have hy1 : (wr.alloc (.cells #[] 3)).drew.cell? ⟨w.heap.size + 1 + 1, 2, none⟩ = some (.slice pA k pcap) := cell_alloc y2 (by omega)
      have hy1' : (wr.alloc (.cells #[] 3)).cell? ⟨w.heap.size + 1 + 1, 2, none⟩ = some (.slice pA k pcap) := cell_alloc y2 (by omega)
      have hf1 : (wr.alloc (.cells #[] 3)).frozen? ⟨w.heap.size + 1 + 1, 2, none⟩ = false := frozen_alloc yf2 (by omega)
      clear hsrc
      go_wp2_with fail
      rw [lateLoad_in]
      go_region_held3 (fun w' => w'.cell? ⟨w.heap.size, 2, none⟩ = some (.slice (some ⟨b2, off2, none⟩) S.pieces.length cap2) ∧
          w'.cell? ⟨b2, off2 + k * 2, none⟩ = some (.int .i64 (pnth S.pieces k).long) ∧ w'.cell? ⟨b2, off2 + k * 2 + 1, none⟩ = some (.slice a3 (pnth S.pieces k).heats.length cap3))
        (first
          | exact ⟨c2, d0, d1⟩
          | exact KEEP1.out
          | (go_split_ands; (refine held_alloc ?_ ?_ ?_ ?_ ?_ _ <;> (first | assumption | omega)))
          | (go_split_ands; (refine held_grown ?_ ?_ ?_ ?_ ?_ hgrow2 (by simp [Value.ownBlock]; omega) (by simp [Value.ownBlock]; omega) <;> (first | assumption | (simp; omega))))
          | (go_split_ands; (refine held_grown ?_ ?_ ?_ ?_ ?_ hgrow3 hpn0 hpn2 <;> (first | assumption | (simp; omega))))
          | (go_split_ands; (refine held_set ?_ ?_ ?_ _ _ ?_ ?_ <;> (first | assumption | (simp; done) | (simp; omega))))
          | (go_split_ands; exact ⟨by assumption, by assumption, by assumption⟩))
        (first
          | ((refine step_onto (base := wr.heap.size) (v := .slice (some ⟨wr.heap.size, 0, none⟩) 0 0) (n := 0) (xs := []) (A := a3) (m := (pnth S.pieces k).heats.length) (c := cap3) (news := (pnth S.pieces k).heats.map (Value.int .i64)) (by rfl) (.tmp 27) (.tmp 33) (by rfl) Try.underlying26 hi hz0 hz1 hz2 rfl (by decide) (by rfl) (World.ownsRow_made wr #[] 0 (Nat.le_refl _) (by unfold maxLen; omega) rfl) (by rfl) (HSRC.out _ (((Below.refl _ wr).alloc (by omega) _).drew)) (map_one _) (by unfold maxLen; omega) (by omega) (by simp) ?_; intro hA hcap w2 hown2 hgrow2 hat2; have hs2 := hgrow2.size; rw [Nat.zero_add, List.nil_append] at hown2; simp at hs2; have hy2 : w2.cell? ⟨w.heap.size + 1 + 1, 2, none⟩ = some (.slice pA k pcap) := (hgrow2.cell_far ⟨w.heap.size + 1 + 1, 2, none⟩ (by simp; omega) (by simp [Value.ownBlock]; omega)).trans hy1; have hf2 : w2.frozen? ⟨w.heap.size + 1 + 1, 2, none⟩ = false := (hgrow2.frozen_far ⟨w.heap.size + 1 + 1, 2, none⟩ (by simp; omega) (by simp [Value.ownBlock]; omega)).trans hf1; have hy3 := cell_alloc (o := .cells #[.int .i64 (pnth S.pieces k).long, .slice hA (pnth S.pieces k).heats.length hcap] 60) hy2 (by omega); have hf3 := frozen_alloc (o := .cells #[.int .i64 (pnth S.pieces k).long, .slice hA (pnth S.pieces k).heats.length hcap] 60) hf2 (by omega)))
          | ((refine step_onto (base := w.heap.size + 3) (v := .slice pA k pcap) (n := k) (xs := pcells S.pieces hs k) (A := some ⟨w2.heap.size, 0, none⟩) (m := 1) (c := 1) (news := [.int .i64 (pnth S.pieces k).long, .slice hA (pnth S.pieces k).heats.length hcap]) (by rfl) (.tmp 20) (.tmp 36) (by rfl) Try.underlying23 hiP hzP0 hzP1 hzP2 rfl (by decide) (by rfl) ((((R3.out.alloc _).drew).kept hgrow2 (.inr hpnw)).alloc _) (by rfl) ⟨rfl, fun _ => ⟨_, rfl, World.news_of_block (cs := #[.int .i64 (pnth S.pieces k).long, .slice hA (pnth S.pieces k).heats.length hcap]) (t := 60) (fr := (0, 0)) (heap_alloc_new w2 _)⟩⟩ (by simp [Value.oneCell']) (by unfold maxLen; omega) (by omega) (by simp; omega) ?_; intro qA qcap w3 hown3 hgrow3 hat3; have hy4 : w3.cell? ⟨w.heap.size + 1 + 1, 2, none⟩ = some (.slice pA k pcap) := (hgrow3.cell_far ⟨w.heap.size + 1 + 1, 2, none⟩ (by simp; omega) (Ne.symm hpn)).trans hy3; have hf4 : w3.frozen? ⟨w.heap.size + 1 + 1, 2, none⟩ = false := (hgrow3.frozen_far ⟨w.heap.size + 1 + 1, 2, none⟩ (by simp; omega) (Ne.symm hpn)).trans hf3)))
      all_goals
        obtain ⟨s1, s2⟩ := copy_step R0.out R1.out R2.out R3.out R4.out R5.out (((Below.refl _ wr).alloc (Nat.le_refl _) _).drew) (by simp) hgrow2 hown2 hgrow3 hown3
        have S1 := Lib.hid s1
        have S2 := Lib.hid (hbw.out.trans s2)
        clear s1 s2 hgrow2 hown2 hgrow3 hown3 hat2 hat3
        go_wp2
        exact ⟨⟨k + 1, by omega, by go_num, S1, S2⟩, by simp [intOf]; omega⟩
    · obtain rfl : S.pieces.length = k := by omega
      go_wp2
      refine bodyPost_ret (v := .agg #[.slice bA S.bars.length bcap, .int .i64 S.kerf, .slice pA S.pieces.length pcap, .int .i64 S.wrong]) (by simp [results, Try.results35, go_sem, z0, z1, z2, z3]) rfl ⟨_, rfl, ?_, ?_⟩
      · have hk4 : ∀ {e : TypeId} {v : Value} {n size : Nat} {xs : List Value} {a b c d : Value}, wr.ownsRow (w.heap.size + 3) e size v n xs →
            ((((wr.setCell ⟨w.heap.size + 1, 0, none⟩ a).setCell ⟨w.heap.size + 1, 1, none⟩ b).setCell ⟨w.heap.size + 1, 2, none⟩ c).setCell ⟨w.heap.size + 1, 3, none⟩ d).ownsRow w.heap.size e size v n xs := fun h =>
          own_base (own_set_other (own_set_other (own_set_other (own_set_other h (by simp) _) (by simp) _) (by simp) _) (by simp) _) (by omega)
        have hwf := HX.out.wf
        exact ⟨_, _, hs, rfl, hk4 R5.out, hk4 R3.out, fun i hi => hk4 (R4.out i hi), hwf.bars, hwf.pieces, hwf.kerf, hwf.wrong⟩
      · exact (((hbw.out.setCell (by simp) _).setCell (by simp) _).setCell (by simp) _).setCell (by simp) _

/-- What lies in memory of the call's own reads as a store. -/
theorem CopyAt.store {lo : Nat} {w : World} {v : Value} {S : Store} (h : CopyAt lo w v S) : StoreAt w.heap.size w v S := by
  obtain ⟨bv, pv, hs, rfl, h1, h2, h3, h4, h5, h6, h7⟩ := h
  have hint : ∀ i, i < S.pieces.length → IntsAt w.heap.size w (hs i) (pnth S.pieces i).heats := fun i hi =>
    ints_of_own (h3 i hi) (fun x hx => (h5 (pnth S.pieces i) (by rw [show pnth S.pieces i = S.pieces[i] by simp [pnth, hi]]; exact List.getElem_mem hi)).2 x hx)
  refine ⟨bv, pv, rfl, ?_, ?_, h6, h7⟩
  · rcases h1.2 with ⟨rfl, h0⟩ | ⟨g, cap, cur, rfl, hge, hg, hn, hm, _⟩
    · exact ⟨none, 0, 0, 0, by rw [h0], by omega, by unfold maxLen; omega, fun h => by omega, fun i hi => by omega, h4⟩
    · refine ⟨_, cap, g, 0, rfl, hn, hm, fun _ => ⟨rfl, (Array.getElem?_eq_some_iff.1 hg).1⟩, fun i hi => ?_, h4⟩
      have hb := bcells_at S.bars (i := i) (k := S.bars.length) hi
      rw [Nat.zero_add]
      exact ⟨(h1.cellAt (i * 2) (by omega)).trans hb.1, (h1.cellAt (i * 2 + 1) (by omega)).trans hb.2⟩
  · rcases h2.2 with ⟨rfl, h0⟩ | ⟨g, cap, cur, rfl, hge, hg, hn, hm, _⟩
    · exact ⟨none, 0, 0, 0, by rw [h0], by omega, by unfold maxLen; omega, fun h => by omega, fun i hi => by omega, fun x hx => (h5 x hx).1⟩
    · refine ⟨_, cap, g, 0, rfl, hn, hm, fun _ => ⟨rfl, (Array.getElem?_eq_some_iff.1 hg).1⟩, fun i hi => ?_, fun x hx => (h5 x hx).1⟩
      have hb := pcells_at S.pieces hs (i := i) (k := S.pieces.length) hi
      rw [Nat.zero_add]
      exact ⟨(h2.cellAt (i * 2) (by omega)).trans hb.1, hs i, (h2.cellAt (i * 2 + 1) (by omega)).trans hb.2, hint i hi⟩
theorem CopyAt.below {lo : Nat} {w w' : World} {v : Value} {S : Store} (h : CopyAt lo w v S) (hb : Below w.heap.size w w') : CopyAt lo w' v S := by
  obtain ⟨bv, pv, hs, rfl, h1, h2, h3, h4⟩ := h
  exact ⟨bv, pv, hs, rfl, own_below h1 hb, own_below h2 hb, fun i hi => own_below (h3 i hi) hb, h4⟩
end Go.Proofs.Ytjflpmhlodgadaa
-- 
--
