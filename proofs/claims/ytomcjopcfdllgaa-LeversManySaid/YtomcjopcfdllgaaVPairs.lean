/-
  Levers, walks: newPairs: how many pairs of short arms have each product.
-/
import Derived.Test.YtomcjopcfdllgaaVWork
import Derived.Test.YtomcjopcfdllgaaVLin
import Derived.Deep.RegionLaw
import Derived.BigRegion
import Derived.OwnWalk
import Derived.Deep.DeepCutAuto
import Derived.Deep.OwnRows

namespace Go.Proofs.Ytomcjopcfdllgaa
open Go.RowKit

theorem mul_off {A B : Int × Int} (hA : 1 ≤ A.1 ∧ A.2 ≤ 1000) (hB : 1 ≤ B.1 ∧ B.2 ≤ 1000) {x y : Int} (hx : A.1 ≤ x ∧ x ≤ A.2) (hy : B.1 ≤ y ∧ y ≤ B.2) :
    0 ≤ x * y ∧ x * y ≤ 1000000 ∧ A.1 * B.1 ≤ x * y ∧ x * y ≤ A.2 * B.2 ∧ 0 ≤ A.1 * B.1 ∧ A.2 * B.2 ≤ 1000000 := by
  have h1 : A.1 * B.1 ≤ x * y := mul_mono (by omega) (by omega) hx.1 hy.1
  have h2 : x * y ≤ A.2 * B.2 := mul_mono (by omega) (by omega) hx.2 hy.2
  have h3 : A.2 * B.2 ≤ 1000 * 1000 := mul_mono (by omega) (by omega) hA.2 hB.2
  have h4 : 0 ≤ A.1 * B.1 := Int.mul_nonneg (by omega) (by omega)
  omega
theorem Try_infoI : (Try.prog.info? 3).map (fun i => (i.zero, i.size, i.bytes)) = some (some (.int .i64 0), 1, 8) := by kernel_rfl
theorem heap5 (w : World) (o1 o2 o3 o4 o5 : Obj) : (((((w.alloc o1).alloc o2).alloc o3).alloc o4).alloc o5).heap[w.heap.size]? = some o1 ∧ (((((w.alloc o1).alloc o2).alloc o3).alloc o4).alloc o5).heap[w.heap.size + 1]? = some o2 ∧ (((((w.alloc o1).alloc o2).alloc o3).alloc o4).alloc o5).heap[w.heap.size + 1 + 1]? = some o3 ∧
    (((((w.alloc o1).alloc o2).alloc o3).alloc o4).alloc o5).heap[w.heap.size + 1 + 1 + 1]? = some o4 ∧ (((((w.alloc o1).alloc o2).alloc o3).alloc o4).alloc o5).heap[w.heap.size + 1 + 1 + 1 + 1]? = some o5 := by
  obtain ⟨h1, h2, h3⟩ := heap3 w o1 o2 o3
  have h4 : ((((w.alloc o1).alloc o2).alloc o3).alloc o4).heap[w.heap.size + 1 + 1 + 1]? = some o4 := by
    have := heap_new (((w.alloc o1).alloc o2).alloc o3) o4
    simpa using this
  have h5 : (((((w.alloc o1).alloc o2).alloc o3).alloc o4).alloc o5).heap[w.heap.size + 1 + 1 + 1 + 1]? = some o5 := by
    have := heap_new ((((w.alloc o1).alloc o2).alloc o3).alloc o4) o5
    simpa using this
  refine ⟨?_, ?_, ?_, ?_, h5⟩
  · rw [Below.heap_alloc _ _ _ (by simp only [World.size_alloc]; omega), Below.heap_alloc _ _ _ (by simp only [World.size_alloc]; omega)]; exact h1
  · rw [Below.heap_alloc _ _ _ (by simp only [World.size_alloc]; omega), Below.heap_alloc _ _ _ (by simp only [World.size_alloc]; omega)]; exact h2
  · rw [Below.heap_alloc _ _ _ (by simp only [World.size_alloc]; omega), Below.heap_alloc _ _ _ (by simp only [World.size_alloc]; omega)]; exact h3
  · rw [Below.heap_alloc _ _ _ (by simp)]; exact h4
/-- Both rows, while pairs are counted. -/
structure CntSt (w2 W : World) (bw ba R : Nat) (A B : Int × Int) (ps : List (Int × Int)) : Prop where
  ways : RowAt bw R (wayI A B ps) W
  arms : RowAt ba R (armI A B ps) W
  kept : KeptBut (fun k => k = bw ∨ k = ba) w2 W
theorem CntSt.step {w2 W : World} {bw ba R : Nat} {A B : Int × Int} {ps : List (Int × Int)} (h : CntSt w2 W bw ba R A B ps) (hne : bw ≠ ba) (q : Int × Int) (hq : offN A B q < R) :
    CntSt w2 ((W.setCell ⟨bw, offN A B q, none⟩ (.int .i64 (wayI A B ps (offN A B q) + 1))).setCell ⟨ba, offN A B q, none⟩ (.int .i64 q.1)) bw ba R A B (ps ++ [q]) := by
  refine ⟨?_, ?_, ?_⟩
  · refine RowAt.congr ((h.ways.set hq _).kept (heap_setCell_other (Ne.symm hne))) (fun i => ?_)
    rw [wayI_snoc]
    by_cases e : i = offN A B q
    · rw [if_pos e, if_pos e, e]
    · rw [if_neg e, if_neg e]
  · refine RowAt.congr (RowAt.set (h.arms.kept (heap_setCell_other hne)) hq _) (fun i => ?_)
    rw [armI_snoc]
  · exact (h.kept.trans (KeptBut.setCell _ _ _ (.inl rfl))).trans (KeptBut.setCell _ _ _ (.inr rfl))

theorem sum_le {A B : Int × Int} (hA : 1 ≤ A.1 ∧ A.2 ≤ 1000) (hB : 1 ≤ B.1 ∧ B.2 ≤ 1000) (k : Nat) : sumTo (wayN A B) k ≤ 1000000 := by
  have h1 := pairs_le hA hB
  have h2 : sumTo (wayN A B) k ≤ (offs A B).length := by
    unfold wayN
    rw [sum_tally]
    exact List.length_filter_le _ _
  have h3 : (offs A B).length = (pairsL A B).length := by simp [offs]
  omega
theorem Try_infoA : (Try.prog.info? 94).map (fun i => (i.zero, i.size, i.bytes)) = some (some (.agg #[.int .i64 0, .int .i64 0]), 2, 16) := by kernel_rfl
theorem kept_grown {v : Value} {w W : World} {o : Obj} (h : ((w.alloc o).drew).grownBy W v.ownBlock) : KeptBut (fun b => v.ownBlock = some b) w W :=
  ⟨h.os, h.tape, h.output, Nat.le_trans (by simp) h.size, fun k hk ho => (h.block k (by simp; omega) (fun e => ho e.symm)).trans (Below.heap_alloc w _ _ hk)⟩
theorem row_cell {w : World} {base mb mc n : Nat} {ms : List Int} {x : Int} (h : w.ownsRow base 3 1 (.slice (some ⟨mb, 0, none⟩) (n + 1) mc) (n + 1) (ms.map (Value.int .i64))) (hl : ms.length = n + 1) (hx : nth ms n = x) : w.cell? ⟨mb, n, none⟩ = some (.int .i64 x) := by
  rcases h.2 with ⟨h1, _⟩ | ⟨g, cap, cur, h1, _, hg, hn, hm, hs, ht⟩
  · cases h1
  · injection h1 with h1 _ h2
    injection h1 with h1
    injection h1 with h1
    subst h1
    have h3 : (cur.toList.take ((n + 1) * 1))[n]? = some (.int .i64 x) := by
      rw [ht, List.getElem?_map, ← hx, nth_lt (by omega), List.getElem?_eq_getElem (by omega)]
      rfl
    rw [List.getElem?_take_of_lt (by omega), Array.getElem?_toList] at h3
    rw [cell_of hg]; exact h3
/-- A row of one value that is known, that somebody owns, as a fact. -/
def rowE (ok : Nat → Prop) (u : Value) (base : Nat) (e : TypeId) (size n : Nat) (xs : List Value) : LFact ok :=
  ⟨fun v W => (v = u ∧ W.ownsRow base e size v n xs) ∧ ∀ b, v.ownBlock = some b → ok b, Value.ownBlock, fun v W W' row h hg hr => ⟨⟨h.1.1, h.1.2.kept hg (by
    cases hv : v.ownBlock with
    | none => exact .inl rfl
    | some g => exact .inr (fun h => (hr g h.symm).2 hv))⟩, h.2⟩, fun v W b h hk => ⟨h.2 b hk, (h.1.2.lt b hk).2⟩⟩
theorem put4_kept (w : World) (b : Nat) (v0 v1 v2 v3 : Value) : KeptBut (fun k => k = b) w (put4 w b v0 v1 v2 v3) :=
  (((KeptBut.setCell (own := fun k => k = b) w ⟨b, 0, none⟩ v0 rfl).trans (KeptBut.setCell _ ⟨b, 1, none⟩ v1 rfl)).trans (KeptBut.setCell _ ⟨b, 2, none⟩ v2 rfl)).trans (KeptBut.setCell _ ⟨b, 3, none⟩ v3 rfl)
theorem kept_grown0 {v : Value} {w W : World} {o : Obj} (h : (w.alloc o).grownBy W v.ownBlock) : KeptBut (fun b => v.ownBlock = some b) w W :=
  ⟨h.os, h.tape, h.output, Nat.le_trans (by simp) h.size, fun k hk ho => (h.block k (by simp; omega) (fun e => ho e.symm)).trans (Below.heap_alloc w _ _ hk)⟩
/-- How many places are used before each of the first k. -/
def lessTo (F : Nat → Nat) (k : Nat) : List Nat := (List.range (k + 1)).map (posTo F)
theorem lessTo_succ (F : Nat → Nat) (k : Nat) : lessTo F (k + 1) = lessTo F k ++ [posTo F (k + 1)] := by simp [lessTo, List.range_succ]
theorem lessTo_len (F : Nat → Nat) (k : Nat) : (lessTo F k).length = k + 1 := by simp [lessTo]
theorem pr_first {w wr w4 : World} {bw ba R : Nat} {f g : Nat → Int} {L : Int} (hR : R + 1 ≤ 2000000) (hsz : w.heap.size + 5 ≤ wr.heap.size) (hS : w.heap.size + 5 ≤ bw ∧ w.heap.size + 5 ≤ ba) (hw : RowAt bw R f wr) (ha : RowAt ba R g wr)
    (j4 : wr.heap[w.heap.size + 1 + 1 + 1 + 1]? = some (.cells #[.slice none 0 0, .slice (some ⟨w.heap.size + 1 + 1 + 1, 0, none⟩) 1 1, .int .i64 L, .slice none 0 0] 97)) (j3 : wr.heap[w.heap.size + 1 + 1 + 1]? = some (.cells #[.int .i64 0] 3))
    (j2 : wr.heap[w.heap.size + 1 + 1]? = some (.cells #[.slice none 0 0, .slice none 0 0, .int .i64 0, .slice none 0 0] 97)) (hb : Below w.heap.size w wr)
    (hw4 : w4 = (wr.alloc (.cells (madeCells #[.int .i64 0] (R + 1)) 3)).setCell ⟨w.heap.size + 1 + 1 + 1 + 1, 3, none⟩ (.slice (some ⟨wr.heap.size, 0, none⟩) 1 (R + 1))) :
    Pr w (w.heap.size + 1 + 1) (w.heap.size + 1 + 1 + 1 + 1) bw ba R f g L [] [0] [0] (.slice none 0 0) (.slice (some ⟨w.heap.size + 1 + 1 + 1, 0, none⟩) 1 1) (.slice (some ⟨wr.heap.size, 0, none⟩) 1 (R + 1)) w4 := by
  have hold : ∀ k o, k ≠ w.heap.size + 1 + 1 + 1 + 1 → wr.heap[k]? = some o → w4.heap[k]? = some o := fun k o hk ho => by
    rw [hw4]; exact (heap_setCell_other (Ne.symm hk)).trans ((Below.heap_alloc _ _ _ (heap_lt ho)).trans ho)
  have hnew : w4.heap[wr.heap.size]? = some (.cells (madeCells #[.int .i64 0] (R + 1)) 3) := by rw [hw4]; exact (heap_setCell_other (by omega)).trans (heap_new _ _)
  have e4 : (wr.alloc (.cells (madeCells #[.int .i64 0] (R + 1)) 3)).heap[w.heap.size + 1 + 1 + 1 + 1]? = _ := (Below.heap_alloc _ _ _ (heap_lt j4)).trans j4
  refine ⟨by rw [hw4]; exact heap_setCell_same e4, World.ownsRow_nil _ _ _ _, ?_, ?_, fun b hb => by simp [Value.ownBlock] at hb, fun b hb => ?_, fun b hb => ?_, ?_, ?_, hold _ _ (by omega) j2, ?_, by omega⟩
  · exact ⟨rfl, .inr ⟨_, 1, _, rfl, by omega, hold _ _ (by omega) j3, Nat.le_refl 1, by unfold maxLen; omega, rfl, rfl⟩⟩
  · refine ⟨rfl, .inr ⟨_, R + 1, _, rfl, by omega, hnew, by simp, by unfold maxLen; omega, by simp [size_madeCells], ?_⟩⟩
    have h0 : (madeCells #[Value.int .i64 0] (R + 1)).toList[0]? = some (.int .i64 0) := by simp [madeCells]
    cases hl : (madeCells #[Value.int .i64 0] (R + 1)).toList with
    | nil => rw [hl] at h0; simp at h0
    | cons x l => rw [hl] at h0; simp at h0; subst h0; rfl
  · have : w.heap.size + 1 + 1 + 1 = b := by simpa [Value.ownBlock] using hb
    subst this
    intro h
    have : wr.heap.size = w.heap.size + 1 + 1 + 1 := by simpa [Value.ownBlock] using h
    omega
  · have h1 := hw.lt
    have h2 := ha.lt
    rcases hb with hb | hb | hb
    · simp [Value.ownBlock] at hb
    · have : w.heap.size + 1 + 1 + 1 = b := by simpa [Value.ownBlock] using hb
      omega
    · have : wr.heap.size = b := by simpa [Value.ownBlock] using hb
      omega
  · obtain ⟨arr, h1, h2⟩ := hw
    exact ⟨arr, hold _ _ (by omega) h1, h2⟩
  · obtain ⟨arr, h1, h2⟩ := ha
    exact ⟨arr, hold _ _ (by omega) h1, h2⟩
  · rw [hw4]; exact below_setCell (hb.alloc (by omega) _) (by omega)
theorem pr_last {w w5 : World} {b2 b4 bw ba R : Nat} {f g : Nat → Int} {L : Int} {A D : Int × Int} {av mv sv : Value} (h : Pr w b2 b4 bw ba R f g L (armsOf A D) (manyI A D) (lessI A D) av mv sv w5) (hL : A.1 * D.1 = L) (hs : ∀ k, sumTo (wayN A D) k ≤ 1000000) (hR : roomN A D ≤ 1000001) :
    PairsNew w.heap.size (.agg #[av, mv, .int .i64 L, sv]) A D (put4 w5 b2 av mv (.int .i64 L) sv) ∧ Below w.heap.size w (put4 w5 b2 av mv (.int .i64 L) sv) ∧ (put4 w5 b2 av mv (.int .i64 L) sv).heap[b2]? = some (.cells #[av, mv, .int .i64 L, sv] 97) := by
  have hput := put4_heap (v0 := av) (v1 := mv) (v2 := .int .i64 L) (v3 := sv) h.res
  have hbf := put4_below (v0 := av) (v1 := mv) (v2 := .int .i64 L) (v3 := sv) h.below h.lo.2.1
  have hk := put4_kept w5 b2 av mv (.int .i64 L) sv
  have hA1 := own_keep h.a hk (fun b hb e => (h.fr b (.inl hb)).1 e)
  have hA2 := own_keep h.m hk (fun b hb e => (h.fr b (.inr (.inl hb))).1 e)
  have hA3 := own_keep h.l hk (fun b hb e => (h.fr b (.inr (.inr hb))).1 e)
  refine ⟨fun W' hk' => ⟨av, mv, sv, by rw [hL], arms_of_own (own_keep hA1 hk' (fun b hb e => by have := (hA1.lt b hb).1; omega)), ints_of_own (own_keep hA2 hk' (fun b hb e => by have := (hA2.lt b hb).1; omega)) (fun x hx => ?_), ints_of_own (own_keep hA3 hk' (fun b hb e => by have := (hA3.lt b hb).1; omega)) (fun x hx => ?_)⟩, hbf, hput⟩
  · obtain ⟨y, hy, rfl⟩ := List.mem_map.1 hx
    have := many_bound (wayN A D) hs (roomN A D) y hy
    unfold I64; omega
  · obtain ⟨y, hy, rfl⟩ := List.mem_map.1 hx
    obtain ⟨z, hz, rfl⟩ := List.mem_map.1 hy
    have h1 := posTo_le (wayN A D) z
    have h2 := List.mem_range.1 hz
    unfold I64; omega
set_option maxRecDepth 100000 in
set_option maxHeartbeats 8000000 in
theorem newPairs_any (A B : Int × Int) (w : World) (hA : 1 ≤ A.1 ∧ A.1 ≤ A.2 ∧ A.2 ≤ 1000) (hB : 1 ≤ B.1 ∧ B.1 ≤ B.2 ∧ B.2 ≤ 1000) :
    Calls Try.prog 84 #[.agg #[.int .i64 A.1, .int .i64 A.2], .agg #[.int .i64 B.1, .int .i64 B.2]] w fun e w' => ∃ v, e = .returned v ∧ PairsNew w.heap.size v A B w' ∧ Below w.heap.size w w' := by
  obtain ⟨m1, m2, m3, m4, m5, m6⟩ := mul_off (A := A) (B := B) ⟨hA.1, hA.2.2⟩ ⟨hB.1, hB.2.2⟩ (x := A.2) (y := B.2) (by omega) (by omega)
  obtain ⟨R, hR⟩ : ∃ R, roomN A B = R := ⟨_, rfl⟩
  have hR1 : (R : Int) = A.2 * B.2 - A.1 * B.1 + 1 := by rw [← hR]; unfold roomN; omega
  obtain ⟨L, hL⟩ : ∃ L, A.1 * B.1 = L := ⟨_, rfl⟩
  obtain ⟨H, hH⟩ : ∃ H, A.2 * B.2 = H := ⟨_, rfl⟩
  have HO := Lib.hid (fun (x y : Int) (hx : A.1 ≤ x ∧ x ≤ A.2) (hy : B.1 ≤ y ∧ y ≤ B.2) => mul_off (A := A) (B := B) ⟨hA.1, hA.2.2⟩ ⟨hB.1, hB.2.2⟩ hx hy)
  have HWL := Lib.hid (fun (x y : Int) (hx : x ≤ A.2) (hy : y ≤ B.2 + 1) (hx0 : A.1 ≤ x) (hy0 : B.1 ≤ y) => way_le (A := A) (B := B) ⟨hA.1, hA.2.2⟩ ⟨hB.1, hB.2.2⟩ hx hy hx0 hy0)
  have wL : wrap64 (A.1 * B.1) = L := by rw [← hL]; exact wrap_in (by omega)
  have wH : wrap64 (A.2 * B.2) = H := by rw [← hH]; exact wrap_in (by omega)
  rw [hL, hH] at m3 hR1
  rw [hL] at m5
  rw [hH] at m6
  have HL := Lib.hid hL
  have HH := Lib.hid hH
  have HR := Lib.hid hR
  have hR2 : H - L + 1 = (R : Int) := by omega
  have hR3 : R ≤ 1000001 := by omega
  clear m1 m2 m4 hL hH hR hR1
  obtain ⟨A1, A2⟩ := A
  obtain ⟨B1, B2⟩ := B
  dsimp only at hA hB wL wH HO HWL HL HH ⊢
  have hmk : ∀ W : World, (Instr.makeSlice 28 (.int .i64 (R : Int)) (.int .i64 (R : Int))).run Try.prog W = .ok (.slice (some ⟨W.heap.size, 0, none⟩) R R) (W.alloc (.cells (madeCells #[.int .i64 0] R) 3)) := fun W => run_make_row' 28 3 (.int .i64 0) 8 Try.underlying28 Try_infoI rfl _ _ R (by omega) (by omega) W
  go_enter Try.func84, Try.ntmps84
  go_wp2_with fail
  obtain ⟨w1, hw1⟩ : ∃ w1, w1 = (((((w.alloc (.cells #[.int .i64 A1, .int .i64 A2] 24)).alloc (.cells #[.int .i64 B1, .int .i64 B2] 24)).alloc (.cells #[.slice none 0 0, .slice none 0 0, .int .i64 0, .slice none 0 0] 97)).alloc (.cells #[.int .i64 0] 3)).alloc (.cells #[.slice none 0 0, .slice (some ⟨w.heap.size + 1 + 1 + 1, 0, none⟩) 1 1, .int .i64 L, .slice none 0 0] 97)) := ⟨_, rfl⟩
  have hs1 : w1.heap.size = w.heap.size + 5 := by rw [hw1]; simp
  have hb1 : Below w.heap.size w w1 := by rw [hw1]; go_grown
  obtain ⟨g0, g1, g2, g3, g4⟩ := heap5 w (.cells #[.int .i64 A1, .int .i64 A2] 24) (.cells #[.int .i64 B1, .int .i64 B2] 24) (.cells #[.slice none 0 0, .slice none 0 0, .int .i64 0, .slice none 0 0] 97) (.cells #[.int .i64 0] 3) (.cells #[.slice none 0 0, .slice (some ⟨w.heap.size + 1 + 1 + 1, 0, none⟩) 1 1, .int .i64 L, .slice none 0 0] 97)
  rw [← hw1] at g0 g1 g2 g3 g4 ⊢
  clear hw1
  have HS1 := Lib.hid hs1
  have HB1 := Lib.hid hb1
  clear hs1 hb1 wL wH
  go_cut [7, 8] from 29 to 32 (fun s7 s8 wx => ∃ bw ba : Nat, s7 = .slice (some ⟨bw, 0, none⟩) R R ∧ s8 = .slice (some ⟨ba, 0, none⟩) R R ∧ Hid (bw ≠ ba ∧ w1.heap.size ≤ bw ∧ w1.heap.size ≤ ba ∧ RowAt bw R (fun _ => 0) wx ∧ RowAt ba R (fun _ => 0) wx ∧ Below w1.heap.size w1 wx))
  case first =>
    go_region
    all_goals go_wp2_with fail
    all_goals go_meet
    · have r1 := row_new w1 R
      have r2 := row_new (w1.alloc (.cells (madeCells #[.int .i64 0] R) 3)) R
      rw [World.size_alloc] at r2
      exact ⟨w1.heap.size, w1.heap.size + 1, rfl, rfl, by omega, by omega, by omega, r1.kept (Below.heap_alloc _ _ _ (by simp)), r2, by go_grown⟩
    · have r1 := row_new w1 R
      have r2 := row_new (w1.alloc (.cells (madeCells #[.int .i64 0] R) 3)) R
      rw [World.size_alloc] at r2
      exact ⟨w1.heap.size + 1, w1.heap.size, rfl, rfl, by omega, by omega, by omega, r2, r1.kept (Below.heap_alloc _ _ _ (by simp)), by go_grown⟩
  case rest =>
  obtain ⟨bw, ba, rfl, rfl, hcut⟩ := hcut
  clear hmk
  obtain ⟨w2, hw2⟩ : ∃ w2, w2 = wc := ⟨_, rfl⟩
  rw [← hw2] at hcut ⊢
  clear hw2
  obtain ⟨hne, hl1, hl2, hr1, hr2, hb2⟩ := hcut.out
  have HS2 := Lib.hid (show w.heap.size + 5 ≤ bw ∧ w.heap.size + 5 ≤ ba by have := HS1.out; omega)
  have HB2 := Lib.hid (HB1.out.trans (hb2.mono (by have := HS1.out; omega)))
  have HG := Lib.hid (show w2.heap[w.heap.size]? = some (.cells #[.int .i64 A1, .int .i64 A2] 24) ∧ w2.heap[w.heap.size + 1]? = some (.cells #[.int .i64 B1, .int .i64 B2] 24) ∧ w2.heap[w.heap.size + 1 + 1]? = some (.cells #[.slice none 0 0, .slice none 0 0, .int .i64 0, .slice none 0 0] 97) ∧ w2.heap[w.heap.size + 1 + 1 + 1]? = some (.cells #[.int .i64 0] 3) ∧
      w2.heap[w.heap.size + 1 + 1 + 1 + 1]? = some (.cells #[.slice none 0 0, .slice (some ⟨w.heap.size + 1 + 1 + 1, 0, none⟩) 1 1, .int .i64 L, .slice none 0 0] 97) from
    ⟨(hb2.block _ (heap_lt g0)).trans g0, (hb2.block _ (heap_lt g1)).trans g1, (hb2.block _ (heap_lt g2)).trans g2, (hb2.block _ (heap_lt g3)).trans g3, (hb2.block _ (heap_lt g4)).trans g4⟩)
  have HC0 := Lib.hid (show CntSt w2 w2 bw ba R (A1, A2) (B1, B2) (doneL (A1, A2) (B1, B2) A1 B1) from ⟨by rw [done_none (A := (A1, A2)) (B := (B1, B2))]; exact hr1.congr (fun _ => rfl), by rw [done_none (A := (A1, A2)) (B := (B1, B2))]; exact hr2.congr (fun _ => rfl), KeptBut.refl _ _⟩)
  have HLT := Lib.hid (show w.heap.size + 5 ≤ w2.heap.size by have := hb2.size; have := HS1.out; omega)
  have HNE := Lib.hid hne
  clear hcut hne hl1 hl2 hr1 hr2 hb2 g0 g1 g2 g3 g4 HB1 HS1
  have hkp : ∀ W, KeptBut (fun k => k = bw ∨ k = ba) w2 W → ∀ k, k < w.heap.size + 5 → W.heap[k]? = w2.heap[k]? := fun W h k hk => h.block k (by have := HLT.out; omega) (by have := HS2.out; omega)
  have HKP := Lib.hid hkp
  obtain ⟨a0, a1⟩ := cell2_of HG.out.1
  clear hkp
  go_wp2_with fail
  clear a0 a1
  go_loopw [9] (fun ox wr => ∃ x : Int, A1 ≤ x ∧ x ≤ A2 + 1 ∧ ox = .int .i64 x ∧ Hid (CntSt w2 wr bw ba R (A1, A2) (B1, B2) (doneL (A1, A2) (B1, B2) x B1))) (fun ox _ => (A2 + 1 - intOf ox).toNat)
  case atStart => exact ⟨A1, by omega, by omega, rfl, HC0⟩
  case round =>
    obtain ⟨x, hx1, hx2, rfl, hst⟩ := hrel
    obtain ⟨k0, k1, k2, k3, k4⟩ := HG.out
    have a := cell2_of ((HKP.out wr hst.out.kept _ (by omega)).trans k0)
    have b := cell2_of ((HKP.out wr hst.out.kept _ (by omega)).trans k1)
    obtain ⟨a0, a1⟩ := a
    obtain ⟨b0, b1⟩ := b
    clear k0 k1 k2 k3 k4
    by_cases hlt : x ≤ A2
    · obtain ⟨w3, hw3⟩ : ∃ w3, w3 = wr := ⟨_, rfl⟩
      rw [← hw3] at hst a0 a1 b0 b1 ⊢
      clear hw3
      go_wp2_with fail
      clear a0 a1 b0 b1
      go_loopw [10] (fun oy wr => ∃ y : Int, B1 ≤ y ∧ y ≤ B2 + 1 ∧ oy = .int .i64 y ∧ Hid (CntSt w2 wr bw ba R (A1, A2) (B1, B2) (doneL (A1, A2) (B1, B2) x y))) (fun oy _ => (B2 + 1 - intOf oy).toNat)
      case atStart => exact ⟨B1, by omega, by omega, rfl, hst⟩
      case round =>
        obtain ⟨y, hy1, hy2, rfl, hst2⟩ := hrel
        obtain ⟨k0, k1, k2, k3, k4⟩ := HG.out
        obtain ⟨b0, b1⟩ := cell2_of ((HKP.out wr hst2.out.kept _ (by omega)).trans k1)
        obtain ⟨p0, p1, p2, p3⟩ := cells4 ((HKP.out wr hst2.out.kept _ (by omega)).trans k4)
        clear k0 k1 k2 k3 k4
        by_cases hlt2 : y ≤ B2
        · obtain ⟨o1, o2, o3, o4, o5, o6⟩ := HO.out x y ⟨hx1, hlt⟩ ⟨hy1, hlt2⟩
          have hwl := HWL.out x y hlt (by omega) hx1 hy1
          obtain ⟨X, hX⟩ : ∃ X, x * y = X := ⟨_, rfl⟩
          have wX : wrap64 (x * y) = X := by rw [hX] at o1 o2 ⊢; exact wrap_in (by omega)
          obtain ⟨o, ho⟩ : ∃ o : Nat, offN (A1, A2) (B1, B2) (x, y) = o := ⟨_, rfl⟩
          have ho1 : o = (X - L).toNat := by rw [← ho]; unfold offN; dsimp only; rw [hX, HL.out]
          rw [hX] at o1 o2 o3 o4
          rw [HL.out] at o3
          rw [HH.out] at o4
          have hxo : X - L = (o : Int) := by omega
          have hoR : o < R := by omega
          have hoRi : (o : Int) < (R : Int) := by omega
          have ho0 : (0 : Int) ≤ (o : Int) := by omega
          have hstep := Lib.hid (hst2.out.step HNE.out (x, y) (by rw [ho]; exact hoR))
          rw [ho] at hstep
          have c1 := hst2.out.ways.cell hoR
          have c2 := hst2.out.arms.cell hoR
          have f1 := hst2.out.ways.frozen o
          have f2 := hst2.out.arms.frozen o
          have hV := hwl o
          obtain ⟨V, hVV⟩ : ∃ V, wayI (A1, A2) (B1, B2) (doneL (A1, A2) (B1, B2) x y) o = V := ⟨_, rfl⟩
          rw [hVV] at c1 hV hstep
          obtain ⟨V2, hVV2⟩ : ∃ V, armI (A1, A2) (B1, B2) (doneL (A1, A2) (B1, B2) x y) o = V := ⟨_, rfl⟩
          rw [hVV2] at c2
          have n1 := HNE.out
          have n2 : ¬ bw = w.heap.size + 1 + 1 + 1 + 1 := by have := HS2.out; omega
          have n3 := fun e => n2 (Eq.symm e)
          have hd := done_step (A := (A1, A2)) (B := (B1, B2)) (x := x) (y := y) hy1
          have HD := Lib.hid hd
          clear o3 o4 o5 o6 hX ho1 ho hwl hVV hVV2 hst hst2 hd
          go_wp2_with fail
          refine ⟨⟨y + 1, by omega, by omega, by go_num, ?_⟩, by simp [intOf]; omega⟩
          rw [HD.out]
          exact hstep
        · obtain rfl : y = B2 + 1 := by omega
          have hd := done_row (A := (A1, A2)) (B := (B1, B2)) (x := x) hx1
          have HD := Lib.hid hd
          clear hd
          go_wp2_with fail
          refine ⟨⟨x + 1, by omega, by omega, by go_num, ?_⟩, by simp [intOf]; omega⟩
          rw [← HD.out]
          exact hst2
    · obtain rfl : x = A2 + 1 := by omega
      have hall := Lib.hid (show CntSt w2 wr bw ba R (A1, A2) (B1, B2) (pairsL (A1, A2) (B1, B2)) from done_all (A := (A1, A2)) (B := (B1, B2)) ▸ hst.out)
      clear hst
      have hmk2 : ∀ W : World, (Instr.makeSlice 28 (.int .i64 1) (.int .i64 ((R : Int) + 1))).run Try.prog W = .ok (.slice (some ⟨W.heap.size, 0, none⟩) 1 (R + 1)) (W.alloc (.cells (madeCells #[.int .i64 0] (R + 1)) 3)) := fun W => by
        obtain ⟨i0, hi, hz0, hz1, hz2⟩ := info_parts Try_infoI
        have := run_makeSlice (w := W) 28 3 i0 (.int .i64 0) Try.underlying28 hi hz0 .i64 .i64 1 ((R : Int) + 1) (by omega) (by omega) (by rw [hz1]; omega) (by rw [hz2]; omega) (by omega)
        rw [this, hz1, show ((R : Int) + 1).toNat = R + 1 by omega, show (1 : Int).toNat = 1 from rfl, Nat.mul_one]
        rfl
      obtain ⟨k0, k1, k2, k3, k4⟩ := HG.out
      have j4 := (HKP.out wr hall.out.kept _ (by omega)).trans k4
      have j3 := (HKP.out wr hall.out.kept _ (by omega)).trans k3
      have j2 := (HKP.out wr hall.out.kept _ (by omega)).trans k2
      have hszr := hall.out.kept.size
      have hl2 := HLT.out
      obtain ⟨p0, p1, p2, p3⟩ := cells4 ((Below.heap_alloc wr (.cells (madeCells #[.int .i64 0] (R + 1)) 3) _ (by omega)).trans j4)
      have p4 := froz ((Below.heap_alloc wr (.cells (madeCells #[.int .i64 0] (R + 1)) 3) _ (by omega)).trans j4)
      have J4 := Lib.hid j4
      have J3 := Lib.hid j3
      have J2 := Lib.hid j2
      clear k0 k1 k2 k3 k4 b0 b1 j4 j3 j2
      go_wp2_with fail
      obtain ⟨w4, hw4⟩ : ∃ w4, w4 = (wr.alloc (.cells (madeCells #[.int .i64 0] (R + 1)) 3)).setCell ⟨w.heap.size + 1 + 1 + 1 + 1, 3, none⟩ (.slice (some ⟨wr.heap.size, 0, none⟩) 1 (R + 1)) := ⟨_, rfl⟩
      have hpr := pr_first (f := wayI (A1, A2) (B1, B2) (pairsL (A1, A2) (B1, B2))) (g := armI (A1, A2) (B1, B2) (pairsL (A1, A2) (B1, B2))) (L := L) (by omega) (by omega) (by have := HS2.out; omega) hall.out.ways hall.out.arms J4.out J3.out J2.out (HB2.out.trans (hall.out.kept.below HB2.out.size (by have := HS2.out; intro k hk; omega))) hw4
      rw [← hw4]
      clear hw4 hall J4 J3 J2 hszr hl2 p0 p1 p2 p3 p4 hmk2
      obtain ⟨F, hF⟩ : ∃ F, wayN (A1, A2) (B1, B2) = F := ⟨_, rfl⟩
      obtain ⟨V, hV⟩ : ∃ V, pairAt (A1, A2) (B1, B2) = V := ⟨_, rfl⟩
      have HF := Lib.hid hF
      have HV := Lib.hid hV
      have HPR := Lib.hid hpr
      have HSM := Lib.hid (fun k => sum_le (A := (A1, A2)) (B := (B1, B2)) ⟨hA.1, hA.2.2⟩ ⟨hB.1, hB.2.2⟩ k)
      have HAK := Lib.hid (fun k => arm_ok (A := (A1, A2)) (B := (B1, B2)) (i := k) hA.1 hB.1)
      have HFW := Lib.hid (fun k => show wayI (A1, A2) (B1, B2) (pairsL (A1, A2) (B1, B2)) k = (F k : Nat) by rw [wayI_all, hF])
      rw [hF] at HSM HAK
      obtain ⟨f, hf⟩ : ∃ f, wayI (A1, A2) (B1, B2) (pairsL (A1, A2) (B1, B2)) = f := ⟨_, rfl⟩
      obtain ⟨g, hg⟩ : ∃ g, armI (A1, A2) (B1, B2) (pairsL (A1, A2) (B1, B2)) = g := ⟨_, rfl⟩
      rw [hf, hg] at HPR
      rw [hf] at HFW
      have HGV := Lib.hid (fun k => show g k = armAt (A1, A2) (B1, B2) k by rw [← hg]; rfl)
      clear hF hV hpr hf hg a0 a1
      go_loopw [75] (fun oi wr => ∃ k : Nat, k ≤ R ∧ oi = .int .i64 k ∧ ∃ av mv sv, Hid (Pr w (w.heap.size + 1 + 1) (w.heap.size + 1 + 1 + 1 + 1) bw ba R f g L (usedL F V k) ((manyL F k).map (fun x : Nat => (x : Int))) ((lessTo F k).map (fun x : Nat => (x : Int))) av mv sv wr)) (fun oi _ => R - (intOf oi).toNat)
      case atStart => exact ⟨0, by omega, rfl, _, _, _, HPR⟩
      case round =>
        clear HPR HC0
        obtain ⟨k, hk, rfl, av, mv, sv, hp⟩ := hrel
        obtain ⟨w5, hw5⟩ : ∃ w5, w5 = wr := ⟨_, rfl⟩
        rw [← hw5] at hp ⊢
        clear hw5
        by_cases hlt3 : k < R
        · have c1 := hp.out.ways.cell hlt3
          rw [HFW.out] at c1
          have e1 : ((k : Nat) : Int) < (R : Int) := by omega
          have e2 : (0 : Int) ≤ (k : Nat) := by omega
          have hsm := HSM.out (k + 1)
          have hFk : F k ≤ 1000000 := by have := hsm; simp only [sumTo] at this; omega
          obtain ⟨M, hM⟩ : ∃ M, F k = M := ⟨_, rfl⟩
          rw [hM] at c1 hFk
          have HM := Lib.hid hM
          clear hM hsm
          go_upto_if 81 with fail
          go_cut [] from 76 to 124 (fun wx => ∃ av' mv' sv', Hid (Pr w (w.heap.size + 1 + 1) (w.heap.size + 1 + 1 + 1 + 1) bw ba R f g L (usedL F V (k + 1)) ((manyL F (k + 1)).map (fun x : Nat => (x : Int))) ((lessTo F k).map (fun x : Nat => (x : Int))) av' mv' sv' wx))
          case first =>
            by_cases hfk : M = 0
            · subst hfk
              have HU := Lib.hid (show usedL F V (k + 1) = usedL F V k by simp [usedL, HM.out])
              have HMM := Lib.hid (show manyL F (k + 1) = manyL F k by simp [manyL, HM.out])
              go_wp2_with fail
              go_meet
              rw [HU.out, HMM.out]
              exact ⟨av, mv, sv, hp⟩
            · have hpos : (0 : Int) < (M : Int) := by omega
              have hpo := hp.out
              obtain ⟨p0, p1, p2, p3⟩ := cells4 hpo.box
              have p4 := froz hpo.box
              have c2 := hpo.arms.cell hlt3
              have hak := HAK.out k (by rw [HM.out]; omega)
              have hgv := HGV.out k
              rw [hgv] at c2
              have hvk : V k = (armAt (A1, A2) (B1, B2) k, (A1 * B1 + (k : Int)) / armAt (A1, A2) (B1, B2) k) := by rw [← HV.out]; rfl
              obtain ⟨⟨a1, a2⟩, b1, b2⟩ := mem_pairs.1 hak.1
              dsimp only at a1 a2 b1 b2
              rw [HL.out] at hvk b1 b2
              obtain ⟨a, ha⟩ : ∃ a, armAt (A1, A2) (B1, B2) k = a := ⟨_, rfl⟩
              rw [ha] at c2 hvk a1 a2 b1 b2
              have hq : (L + (k : Int)).tdiv a = (L + (k : Int)) / a := Int.tdiv_eq_ediv_of_nonneg (by omega)
              obtain ⟨b, hb⟩ : ∃ b, (L + (k : Int)) / a = b := ⟨_, rfl⟩
              rw [hb] at hq hvk b1 b2
              have ha0 : ¬ a = 0 := by omega
              have hw1 : IntKind.i64.wrap (L + (k : Int)) = L + (k : Int) := IntWalk.i64_in _ (by omega)
              have hw2 : IntKind.i64.wrap b = b := IntWalk.i64_in _ (by omega)
              obtain ⟨aA, acap, hav, hac⟩ := own_form hpo.a
              subst hav
              have hps : (usedL F V k).length = posTo F k := used_len F V k
              have hple := posTo_le F k
              obtain ⟨n, hn⟩ : ∃ n, posTo F k = n := ⟨_, rfl⟩
              rw [hn] at hps hple
              have HOA := hpo.a
              rw [hps] at HOA
              rw [hps] at p0 hac
              have HA := Lib.hid HOA
              have HVK := Lib.hid hvk
              have HPS := Lib.hid hps
              have HN := Lib.hid hn
              have HP4 := Lib.hid (fun (W : World) (hk : KeptBut (fun b => (Value.slice aA n acap).ownBlock = some b) w5 W) => (hk.block _ (heap_lt hpo.box) (fun e => (hpo.fr _ (.inl (by rw [hps]; exact e))).2.1 rfl)).trans hpo.box)
              rw [hps] at HP4
              have hlts := hpo.lts
              have hszw : w.heap.size ≤ w5.heap.size := hpo.below.size
              obtain ⟨iA, hiA, hy0, hy1, hy2⟩ := info_parts Try_infoA
              have HNB := Lib.hid (show ¬ ((.slice aA n acap : Value).ownBlock = some (w.heap.size + 1 + 1 + 1 + 1) ∨ w5.heap.size ≤ w.heap.size + 1 + 1 + 1 + 1) ∧ ¬ ((.slice aA n acap : Value).ownBlock = some ba ∨ w5.heap.size ≤ ba) from by
                have h1 := fun b h => hpo.fr b (.inl h)
                rw [hps] at h1
                refine ⟨?_, ?_⟩
                · rintro (h | h)
                  · exact (h1 _ h).2.1 rfl
                  · omega
                · rintro (h | h)
                  · exact (h1 _ h).2.2.2 rfl
                  · omega)
              clear hak hgv ha hb HOA hpo hps hn hvk
              go_wp2_with fail
              have NB17 : ¬ ((.slice aA n acap : Value).ownBlock = some (w.heap.size + 1 + 1 + 1 + 1) ∨ w5.heap.size ≤ w.heap.size + 1 + 1 + 1 + 1) := HNB.out.1
              have NA17 : ¬ ((.slice aA n acap : Value).ownBlock = some ba ∨ w5.heap.size ≤ ba) := HNB.out.2
              --R17--
              refine wp_region_lin (fun b => (.slice aA n acap : Value).ownBlock = some b ∨ w5.heap.size ≤ b) _ 18 [82, 83, 84, 85, 86, 87, 88, 89, 90, 91, 92, 93, 94, 95, 96, 97, 98, 99] [lisV _ (.pointer (some ⟨w.heap.size + 1 + 1 + 1 + 1, 0, none⟩)), rowF _ w.heap.size 94 2 (n) (qCells (usedL F V k)), lisV _ (.slice (some ⟨ba, 0, none⟩) R R), lisV _ (.int .i64 (k : Int)), lisV _ (.pointer (some ⟨ba, k, none⟩)), lisV _ (.int .i64 a), lisV _ (.pointer (some ⟨w.heap.size + 1 + 1 + 1 + 1, 2, none⟩)), lisV _ (.int .i64 L), lisV _ (.int .i64 (k : Int)), lisV _ (.int .i64 (L + (k : Int))), lisV _ (.slice (some ⟨ba, 0, none⟩) R R), lisV _ (.int .i64 (k : Int)), lisV _ (.pointer (some ⟨ba, k, none⟩)), lisV _ (.int .i64 a), lisV _ (.int .i64 b), lisV _ (.agg #[.int .i64 a, .int .i64 b]), srcF _ (.cells #[.int .i64 a, .int .i64 b] 94), rowF _ w.heap.size 94 2 (n + 1) ((qCells (usedL F V k)) ++ [.int .i64 a, .int .i64 b])] (takeL [(17, 1)]) (own1 1 (.slice aA n acap : Value).ownBlock) (by kernel_rfl) (by kernel_rfl) (by kernel_rfl) (takeL_none (by decide)) (fun i b h => (HA.out.lt b (own1_some h).2).2) own1_inj (by kernel_rfl) rfl (by decide) (by decide) (by simp) ?stepA ?restA
              case stepA =>
                intro i ac W d hi hd hb hfirst hoff hdep hpeek
                have u0 := hb.cell NB17 p0
                have u2 := hb.cell NB17 p2
                have x2 := hb.cell NA17 c2
                have hi2 : i = 0 ∨ i = 1 ∨ i = 2 ∨ i = 3 ∨ i = 4 ∨ i = 5 ∨ i = 6 ∨ i = 7 ∨ i = 8 ∨ i = 9 ∨ i = 10 ∨ i = 11 ∨ i = 12 ∨ i = 13 ∨ i = 14 ∨ i = 15 ∨ i = 16 ∨ i = 17 := by omega
                rcases hi2 with rfl | rfl | rfl | rfl | rfl | rfl | rfl | rfl | rfl | rfl | rfl | rfl | rfl | rfl | rfl | rfl | rfl | rfl
                · obtain rfl : 82 = d := by simpa using hd
                  have q5 : ac.tmps[5]?.getD undef = .pointer (some ⟨w.heap.size + 1 + 1 + 1 + 1, 0, none⟩) := (eval_tmp _ _).symm.trans <| (hoff 5 (by decide)).trans rfl
                  refine lin_value rfl rfl rfl (v := .pointer (some ⟨w.heap.size + 1 + 1 + 1 + 1, 0, none⟩)) (W' := W) ?_ (World.grownBy.refl _ _) rfl (fun b h => by cases h)
                  simp only [execOp]
                  go_simp
                · obtain rfl : 83 = d := by simpa using hd
                  have q82 : ac.tmps[82]?.getD undef = .pointer (some ⟨w.heap.size + 1 + 1 + 1 + 1, 0, none⟩) := (eval_tmp _ _).symm.trans (hdep 0 82 rfl rfl)
                  refine lin_value rfl rfl rfl (v := .slice aA n acap) (W' := W) ?_ (World.grownBy.refl _ _) ⟨own_first HA.out (fun b h => hfirst b (own1_self.trans h)), fun b h => .inl h⟩ (fun b h => .inr (own1_self.trans h))
                  simp only [execOp]
                  go_simp
                · obtain rfl : 84 = d := by simpa using hd
                  have q8 : ac.tmps[8]?.getD undef = .slice (some ⟨ba, 0, none⟩) R R := (eval_tmp _ _).symm.trans <| (hoff 8 (by decide)).trans rfl
                  refine lin_value rfl rfl rfl (v := .slice (some ⟨ba, 0, none⟩) R R) (W' := W) ?_ (World.grownBy.refl _ _) rfl (fun b h => by cases h)
                  simp only [execOp]
                  go_simp
                · obtain rfl : 85 = d := by simpa using hd
                  have q11 : ac.tmps[11]?.getD undef = .int .i64 (k : Int) := (eval_tmp _ _).symm.trans <| (hoff 11 (by decide)).trans rfl
                  refine lin_value rfl rfl rfl (v := .int .i64 (k : Int)) (W' := W) ?_ (World.grownBy.refl _ _) rfl (fun b h => by cases h)
                  simp only [execOp]
                  go_simp
                · obtain rfl : 86 = d := by simpa using hd
                  have q84 : ac.tmps[84]?.getD undef = .slice (some ⟨ba, 0, none⟩) R R := (eval_tmp _ _).symm.trans (hdep 2 84 rfl rfl)
                  have q85 : ac.tmps[85]?.getD undef = .int .i64 (k : Int) := (eval_tmp _ _).symm.trans (hdep 3 85 rfl rfl)
                  refine lin_value rfl rfl rfl (v := .pointer (some ⟨ba, k, none⟩)) (W' := W) ?_ (World.grownBy.refl _ _) rfl (fun b h => by cases h)
                  simp only [execOp]
                  go_simp
                · obtain rfl : 87 = d := by simpa using hd
                  have q86 : ac.tmps[86]?.getD undef = .pointer (some ⟨ba, k, none⟩) := (eval_tmp _ _).symm.trans (hdep 4 86 rfl rfl)
                  refine lin_value rfl rfl rfl (v := .int .i64 a) (W' := W) ?_ (World.grownBy.refl _ _) rfl (fun b h => by cases h)
                  simp only [execOp]
                  go_simp
                · obtain rfl : 88 = d := by simpa using hd
                  have q5 : ac.tmps[5]?.getD undef = .pointer (some ⟨w.heap.size + 1 + 1 + 1 + 1, 0, none⟩) := (eval_tmp _ _).symm.trans <| (hoff 5 (by decide)).trans rfl
                  refine lin_value rfl rfl rfl (v := .pointer (some ⟨w.heap.size + 1 + 1 + 1 + 1, 2, none⟩)) (W' := W) ?_ (World.grownBy.refl _ _) rfl (fun b h => by cases h)
                  simp only [execOp]
                  go_simp
                · obtain rfl : 89 = d := by simpa using hd
                  have q88 : ac.tmps[88]?.getD undef = .pointer (some ⟨w.heap.size + 1 + 1 + 1 + 1, 2, none⟩) := (eval_tmp _ _).symm.trans (hdep 6 88 rfl rfl)
                  refine lin_value rfl rfl rfl (v := .int .i64 L) (W' := W) ?_ (World.grownBy.refl _ _) rfl (fun b h => by cases h)
                  simp only [execOp]
                  go_simp
                · obtain rfl : 90 = d := by simpa using hd
                  have q11 : ac.tmps[11]?.getD undef = .int .i64 (k : Int) := (eval_tmp _ _).symm.trans <| (hoff 11 (by decide)).trans rfl
                  refine lin_value rfl rfl rfl (v := .int .i64 (k : Int)) (W' := W) ?_ (World.grownBy.refl _ _) rfl (fun b h => by cases h)
                  simp only [execOp]
                  go_simp
                · obtain rfl : 91 = d := by simpa using hd
                  have q89 : ac.tmps[89]?.getD undef = .int .i64 L := (eval_tmp _ _).symm.trans (hdep 7 89 rfl rfl)
                  have q90 : ac.tmps[90]?.getD undef = .int .i64 (k : Int) := (eval_tmp _ _).symm.trans (hdep 8 90 rfl rfl)
                  refine lin_value rfl rfl rfl (v := .int .i64 (L + (k : Int))) (W' := W) ?_ (World.grownBy.refl _ _) rfl (fun b h => by cases h)
                  simp only [execOp]
                  go_simp
                · obtain rfl : 92 = d := by simpa using hd
                  have q8 : ac.tmps[8]?.getD undef = .slice (some ⟨ba, 0, none⟩) R R := (eval_tmp _ _).symm.trans <| (hoff 8 (by decide)).trans rfl
                  refine lin_value rfl rfl rfl (v := .slice (some ⟨ba, 0, none⟩) R R) (W' := W) ?_ (World.grownBy.refl _ _) rfl (fun b h => by cases h)
                  simp only [execOp]
                  go_simp
                · obtain rfl : 93 = d := by simpa using hd
                  have q11 : ac.tmps[11]?.getD undef = .int .i64 (k : Int) := (eval_tmp _ _).symm.trans <| (hoff 11 (by decide)).trans rfl
                  refine lin_value rfl rfl rfl (v := .int .i64 (k : Int)) (W' := W) ?_ (World.grownBy.refl _ _) rfl (fun b h => by cases h)
                  simp only [execOp]
                  go_simp
                · obtain rfl : 94 = d := by simpa using hd
                  have q92 : ac.tmps[92]?.getD undef = .slice (some ⟨ba, 0, none⟩) R R := (eval_tmp _ _).symm.trans (hdep 10 92 rfl rfl)
                  have q93 : ac.tmps[93]?.getD undef = .int .i64 (k : Int) := (eval_tmp _ _).symm.trans (hdep 11 93 rfl rfl)
                  refine lin_value rfl rfl rfl (v := .pointer (some ⟨ba, k, none⟩)) (W' := W) ?_ (World.grownBy.refl _ _) rfl (fun b h => by cases h)
                  simp only [execOp]
                  go_simp
                · obtain rfl : 95 = d := by simpa using hd
                  have q94 : ac.tmps[94]?.getD undef = .pointer (some ⟨ba, k, none⟩) := (eval_tmp _ _).symm.trans (hdep 12 94 rfl rfl)
                  refine lin_value rfl rfl rfl (v := .int .i64 a) (W' := W) ?_ (World.grownBy.refl _ _) rfl (fun b h => by cases h)
                  simp only [execOp]
                  go_simp
                · obtain rfl : 96 = d := by simpa using hd
                  have q91 : ac.tmps[91]?.getD undef = .int .i64 (L + (k : Int)) := (eval_tmp _ _).symm.trans (hdep 9 91 rfl rfl)
                  have q95 : ac.tmps[95]?.getD undef = .int .i64 a := (eval_tmp _ _).symm.trans (hdep 13 95 rfl rfl)
                  refine lin_value rfl rfl rfl (v := .int .i64 b) (W' := W) ?_ (World.grownBy.refl _ _) rfl (fun b h => by cases h)
                  simp only [execOp]
                  go_simp
                · obtain rfl : 97 = d := by simpa using hd
                  have q87 : ac.tmps[87]?.getD undef = .int .i64 a := (eval_tmp _ _).symm.trans (hdep 5 87 rfl rfl)
                  have q96 : ac.tmps[96]?.getD undef = .int .i64 b := (eval_tmp _ _).symm.trans (hdep 14 96 rfl rfl)
                  refine lin_value rfl rfl rfl (v := .agg #[.int .i64 a, .int .i64 b]) (W' := W) ?_ (World.grownBy.refl _ _) rfl (fun b h => by cases h)
                  simp only [execOp]
                  go_simp
                · obtain rfl : 98 = d := by simpa using hd
                  have q97 : ac.tmps[97]?.getD undef = .agg #[.int .i64 a, .int .i64 b] := (eval_tmp _ _).symm.trans (hdep 15 97 rfl rfl)
                  refine lin_value rfl rfl rfl (v := .slice (some ⟨W.heap.size, 0, none⟩) 1 1) (W' := W.alloc (.cells #[.int .i64 a, .int .i64 b] 94)) ?_ (below_grownBy ((Below.refl _ _).alloc (Nat.le_refl _) _)) ⟨_, rfl, .inr (by have := hb.size; omega), heap_new _ _⟩ (fun b h => .inl (src_key h))
                  simp only [execOp]
                  go_simp
                · obtain rfl : 99 = d := by simpa using hd
                  have e83 : W.ownsRow w.heap.size 94 2 ((ac.eval (.tmp 83))) (n) (qCells (usedL F V k)) ∧ ∀ b, (((ac.eval (.tmp 83))) : Value).ownBlock = some b → ((.slice aA n acap : Value).ownBlock = some b ∨ w5.heap.size ≤ b) := hdep 1 83 rfl rfl
                  have e98 : ∃ A, (ac.eval (.tmp 98)) = .slice (some ⟨A, 0, none⟩) 1 1 ∧ ((.slice aA n acap : Value).ownBlock = some A ∨ w5.heap.size ≤ A) ∧ W.heap[A]? = some (.cells #[.int .i64 a, .int .i64 b] 94) := hdep 16 98 rfl rfl
                  obtain ⟨A, hA, hok, hblk⟩ := e98
                  refine lin_onto (base := w.heap.size) (nn := n) (m := 1) (c := 1) (j := 1) (xs := qCells (usedL F V k)) (news := [.int .i64 a, .int .i64 b]) 83 98 rfl rfl rfl rfl Try.underlying95 hiA hy0 hy1 hy2 rfl (by decide) rfl e83.1 hA ⟨rfl, fun _ => ⟨_, rfl, World.news_of_block (fr := (0, 0)) hblk⟩⟩ (by simp [Value.oneCell']) (by unfold maxLen; omega) (by omega) (by have := hb.size; omega) rfl rfl rfl (fun A' c' W' h1 h2 h3 => ⟨⟨h1, fun b hb' => ?_⟩, rfl⟩)
                  rcases h3 with h3 | h3
                  · exact e83.2 b (h3 ▸ hb')
                  · rw [h3] at hb'
                    injection hb' with hb'
                    exact .inr (by have := hb.size; omega)
              case restA =>
                intro vs W6 hvl hbk hval
                obtain ⟨l0, l1, l2, l3, l4, l5, l6, l7, l8, l9, l10, l11, l12, l13, l14, l15, l16, l17, rfl⟩ : ∃ l0 l1 l2 l3 l4 l5 l6 l7 l8 l9 l10 l11 l12 l13 l14 l15 l16 l17, vs = [l0, l1, l2, l3, l4, l5, l6, l7, l8, l9, l10, l11, l12, l13, l14, l15, l16, l17] := by
                  match vs, hvl with
                  | [l0, l1, l2, l3, l4, l5, l6, l7, l8, l9, l10, l11, l12, l13, l14, l15, l16, l17], _ => exact ⟨l0, l1, l2, l3, l4, l5, l6, l7, l8, l9, l10, l11, l12, l13, l14, l15, l16, l17, rfl⟩
                obtain rfl : l0 = .pointer (some ⟨w.heap.size + 1 + 1 + 1 + 1, 0, none⟩) := by obtain ⟨u, e, h⟩ := hval 0 (by omega) (takeL_not (by decide)); have e2 : some l0 = some u := e; injection e2 with e2; subst e2; exact h
                obtain rfl : l2 = .slice (some ⟨ba, 0, none⟩) R R := by obtain ⟨u, e, h⟩ := hval 2 (by omega) (takeL_not (by decide)); have e2 : some l2 = some u := e; injection e2 with e2; subst e2; exact h
                obtain rfl : l3 = .int .i64 (k : Int) := by obtain ⟨u, e, h⟩ := hval 3 (by omega) (takeL_not (by decide)); have e2 : some l3 = some u := e; injection e2 with e2; subst e2; exact h
                obtain rfl : l4 = .pointer (some ⟨ba, k, none⟩) := by obtain ⟨u, e, h⟩ := hval 4 (by omega) (takeL_not (by decide)); have e2 : some l4 = some u := e; injection e2 with e2; subst e2; exact h
                obtain rfl : l5 = .int .i64 a := by obtain ⟨u, e, h⟩ := hval 5 (by omega) (takeL_not (by decide)); have e2 : some l5 = some u := e; injection e2 with e2; subst e2; exact h
                obtain rfl : l6 = .pointer (some ⟨w.heap.size + 1 + 1 + 1 + 1, 2, none⟩) := by obtain ⟨u, e, h⟩ := hval 6 (by omega) (takeL_not (by decide)); have e2 : some l6 = some u := e; injection e2 with e2; subst e2; exact h
                obtain rfl : l7 = .int .i64 L := by obtain ⟨u, e, h⟩ := hval 7 (by omega) (takeL_not (by decide)); have e2 : some l7 = some u := e; injection e2 with e2; subst e2; exact h
                obtain rfl : l8 = .int .i64 (k : Int) := by obtain ⟨u, e, h⟩ := hval 8 (by omega) (takeL_not (by decide)); have e2 : some l8 = some u := e; injection e2 with e2; subst e2; exact h
                obtain rfl : l9 = .int .i64 (L + (k : Int)) := by obtain ⟨u, e, h⟩ := hval 9 (by omega) (takeL_not (by decide)); have e2 : some l9 = some u := e; injection e2 with e2; subst e2; exact h
                obtain rfl : l10 = .slice (some ⟨ba, 0, none⟩) R R := by obtain ⟨u, e, h⟩ := hval 10 (by omega) (takeL_not (by decide)); have e2 : some l10 = some u := e; injection e2 with e2; subst e2; exact h
                obtain rfl : l11 = .int .i64 (k : Int) := by obtain ⟨u, e, h⟩ := hval 11 (by omega) (takeL_not (by decide)); have e2 : some l11 = some u := e; injection e2 with e2; subst e2; exact h
                obtain rfl : l12 = .pointer (some ⟨ba, k, none⟩) := by obtain ⟨u, e, h⟩ := hval 12 (by omega) (takeL_not (by decide)); have e2 : some l12 = some u := e; injection e2 with e2; subst e2; exact h
                obtain rfl : l13 = .int .i64 a := by obtain ⟨u, e, h⟩ := hval 13 (by omega) (takeL_not (by decide)); have e2 : some l13 = some u := e; injection e2 with e2; subst e2; exact h
                obtain rfl : l14 = .int .i64 b := by obtain ⟨u, e, h⟩ := hval 14 (by omega) (takeL_not (by decide)); have e2 : some l14 = some u := e; injection e2 with e2; subst e2; exact h
                obtain rfl : l15 = .agg #[.int .i64 a, .int .i64 b] := by obtain ⟨u, e, h⟩ := hval 15 (by omega) (takeL_not (by decide)); have e2 : some l15 = some u := e; injection e2 with e2; subst e2; exact h
                have k16 : ∃ A, l16 = .slice (some ⟨A, 0, none⟩) 1 1 ∧ ((.slice aA n acap : Value).ownBlock = some A ∨ w5.heap.size ≤ A) ∧ W6.heap[A]? = some (.cells #[.int .i64 a, .int .i64 b] 94) := by obtain ⟨u, e, h⟩ := hval 16 (by omega) (takeL_not (by decide)); have e2 : some l16 = some u := e; injection e2 with e2; subst e2; exact h
                have k17 : W6.ownsRow w.heap.size 94 2 (l17) (n + 1) ((qCells (usedL F V k)) ++ [.int .i64 a, .int .i64 b]) ∧ ∀ b, ((l17) : Value).ownBlock = some b → ((.slice aA n acap : Value).ownBlock = some b ∨ w5.heap.size ≤ b) := by obtain ⟨u, e, h⟩ := hval 17 (by omega) (takeL_not (by decide)); have e2 : some l17 = some u := e; injection e2 with e2; subst e2; exact h
                clear hval hvl
                obtain ⟨hr17, hk17⟩ := k17
                obtain ⟨A', c', rfl, _⟩ := own_form hr17
                clear k16
                simp only [putL, Act.put, List.drop, List.setIfInBounds_toArray, List.set_cons_zero, List.set_cons_succ]
              --E17--
                have hkk : KeptBut (fun b => (Value.slice aA n acap).ownBlock = some b) w5 W6 := ⟨hbk.os, hbk.tape, hbk.output, hbk.size, fun k hk ho => hbk.block k hk (fun h => by rcases h with h | h; exact ho h; omega)⟩
                have hbx := HP4.out W6 hkk
                obtain ⟨r0, r1, r2, r3⟩ := cells4 hbx
                have r4 := froz hbx
                have hkk2 := (hkk.mono (own' := fun b => (Value.slice aA n acap).ownBlock = some b ∨ b = w.heap.size + 1 + 1 + 1 + 1) (fun _ _ h => .inl h)).trans (KeptBut.setCell W6 ⟨w.heap.size + 1 + 1 + 1 + 1, 0, none⟩ (.slice A' (n + 1) c') (.inr rfl))
                have hpr2 : Pr w (w.heap.size + 1 + 1) (w.heap.size + 1 + 1 + 1 + 1) bw ba R f g L (usedL F V k ++ [(a, b)]) ((manyL F k).map (fun x : Nat => (x : Int))) ((lessTo F k).map (fun x : Nat => (x : Int))) (.slice A' (n + 1) c') mv sv (W6.setCell ⟨w.heap.size + 1 + 1 + 1 + 1, 0, none⟩ (.slice A' (n + 1) c')) :=
                  hp.out.armed (q := (a, b)) (by rw [HPS.out]; exact hkk2) (heap_setCell_same hbx) (by rw [HPS.out]; exact own_keep hr17 (KeptBut.setCell (own := fun b => b = w.heap.size + 1 + 1 + 1 + 1) _ _ _ rfl) (fun b hb e => by
                    rcases hk17 b hb with h | h
                    · exact HNB.out.1 (.inl (e ▸ h))
                    · omega)) (by rw [HPS.out]; exact hk17)
                have HPR2 := Lib.hid hpr2
                clear hkk hkk2 hpr2 hr17 hk17 hbk hbx p0 p1 p2 p3 p4 c2
                go_upto_region 18 with fail
                obtain ⟨w6, hw6⟩ : ∃ w6, w6 = W6.setCell ⟨w.heap.size + 1 + 1 + 1 + 1, 0, none⟩ (.slice A' (n + 1) c') := ⟨_, rfl⟩
                rw [← hw6] at HPR2 ⊢
                clear hw6 r0 r1 r2 r3 r4 HP4 NB17 NA17 HNB HA hlts
                have hpo := HPR2.out
                obtain ⟨ms, hms⟩ : ∃ ms, (manyL F k).map (fun x : Nat => (x : Int)) = ms := ⟨_, rfl⟩
                have hmsl : ms.length = n + 1 := by rw [← hms, List.length_map, many_len, HN.out]
                have hlast : nth ms n = (sumTo F k : Nat) := by
                  have := many_last F k
                  rw [HN.out] at this
                  rw [← hms, nth, List.getD_eq_getElem?_getD, List.getElem?_map, this]
                  rfl
                rw [hms] at hpo HPR2
                have HOM := hpo.m
                rw [hmsl] at HOM
                obtain ⟨p0, p1, p2, p3⟩ := cells4 hpo.box
                have p4 := froz hpo.box
                rcases HOM.2 with ⟨_, h0⟩ | ⟨mb, mc, cur, rfl, hmb, hmg, hmn, hmm, hms1, hmt⟩
                · omega
                have hmcell : cur[n]? = some (.int .i64 (sumTo F k : Nat)) := by
                  have h1 : (cur.toList.take ((n + 1) * 1))[n]? = some (.int .i64 (sumTo F k : Nat)) := by
                    rw [hmt, List.getElem?_map, ← hlast, nth_lt (by omega), List.getElem?_eq_getElem (by omega)]
                    rfl
                  rw [List.getElem?_take_of_lt (by omega)] at h1
                  rwa [Array.getElem?_toList] at h1
                have hsm := HSM.out (k + 1)
                simp only [sumTo] at hsm
                rw [HM.out] at hsm
                have hS1e : sumTo F (k + 1) = sumTo F k + M := by simp only [sumTo]; rw [HM.out]
                obtain ⟨S0, hS0⟩ : ∃ S0, sumTo F k = S0 := ⟨_, rfl⟩
                obtain ⟨S1, hS1⟩ : ∃ S1, sumTo F (k + 1) = S1 := ⟨_, rfl⟩
                rw [hS0] at hmcell hsm hS1e
                rw [hS1] at hS1e
                have hsum : (S0 : Int) + (M : Int) = (S1 : Int) := by omega
                have hsw : IntKind.i64.wrap ((S0 : Int) + (M : Int)) = (S1 : Int) := by rw [IntWalk.i64_in _ (by omega)]; omega
                have hnw : IntKind.i64.wrap ((n : Int) + 1 - 1) = (n : Int) := by rw [IntWalk.i64_in _ (by omega)]; omega
                have hnw2 : IntKind.i64.wrap (n : Int) = (n : Int) := IntWalk.i64_in _ (by omega)
                have hn0 : (0 : Int) ≤ (n : Int) := by omega
                have hn1 : (n : Int) < (n : Int) + 1 := by omega
                have HM6 := Lib.hid HOM
                have HMG := Lib.hid hmg
                have HMC := Lib.hid hmcell
                have HS1 := Lib.hid hS1
                have HMSL := Lib.hid hmsl
                have HMS := Lib.hid hms
                have HLA := Lib.hid (show nth ms n = (S0 : Nat) by rw [hlast, hS0])
                have hszw6 : w.heap.size ≤ w6.heap.size := hpo.below.size
                have hnR : n ≤ 1000001 := by omega
                have hlts := hpo.lts
                obtain ⟨iI, hiI, hz0, hz1, hz2⟩ := info_parts Try_infoI
                have HFR := Lib.hid (fun b h => hpo.fr b (.inr (.inl h)))
                have NB18 : ¬ ((.slice (some ⟨mb, 0, none⟩) (n + 1) mc : Value).ownBlock = some (w.heap.size + 1 + 1 + 1 + 1) ∨ w6.heap.size ≤ w.heap.size + 1 + 1 + 1 + 1) := by
                  rintro (h | h)
                  · exact (HFR.out _ h).2.1 rfl
                  · omega
                clear hpo HOM hmg hmt hmcell hsm hS0 hS1 hS1e hms hmsl hlast hsum hms1 hmm hmn
                --R18--
                refine wp_region_lin (fun b => (.slice (some ⟨mb, 0, none⟩) (n + 1) mc : Value).ownBlock = some b ∨ w6.heap.size ≤ b) _ 14 [101, 102, 103, 104, 105, 106, 107, 108, 109, 110, 111, 112, 113, 114] [lisV _ (.pointer (some ⟨w.heap.size + 1 + 1 + 1 + 1, 1, none⟩)), rowE _ (.slice (some ⟨mb, 0, none⟩) (n + 1) mc) w.heap.size 3 1 (n + 1) (ms.map (Value.int .i64)), lisV _ (.pointer (some ⟨w.heap.size + 1 + 1 + 1 + 1, 1, none⟩)), lisV _ (.slice (some ⟨mb, 0, none⟩) (n + 1) mc), lisV _ (.pointer (some ⟨w.heap.size + 1 + 1 + 1 + 1, 1, none⟩)), lisV _ (.slice (some ⟨mb, 0, none⟩) (n + 1) mc), lisV _ (.int .i64 ((n : Int) + 1)), lisV _ (.int .i64 (n : Int)), lisV _ (.pointer (some ⟨mb, n, none⟩)), lisV _ (.int .i64 (S0 : Int)), lisV _ (.int .i64 (M : Int)), lisV _ (.int .i64 (S1 : Int)), srcF _ (.cells #[.int .i64 (S1 : Int)] 3), rowF _ w.heap.size 3 1 (n + 1 + 1) ((ms.map (Value.int .i64)) ++ [.int .i64 (S1 : Int)])] (takeL [(13, 1)]) (own1 1 (.slice (some ⟨mb, 0, none⟩) (n + 1) mc : Value).ownBlock) (by kernel_rfl) (by kernel_rfl) (by kernel_rfl) (takeL_none (by decide)) (fun i b h => (HM6.out.lt b (own1_some h).2).2) own1_inj (by kernel_rfl) rfl (by decide) (by decide) (by simp) ?stepB ?restB
                case stepB =>
                  intro i ac W d hi hd hb hfirst hoff hdep hpeek
                  have u0 := hb.cell NB18 p0
                  have u1 := hb.cell NB18 p1
                  have hi2 : i = 0 ∨ i = 1 ∨ i = 2 ∨ i = 3 ∨ i = 4 ∨ i = 5 ∨ i = 6 ∨ i = 7 ∨ i = 8 ∨ i = 9 ∨ i = 10 ∨ i = 11 ∨ i = 12 ∨ i = 13 := by omega
                  rcases hi2 with rfl | rfl | rfl | rfl | rfl | rfl | rfl | rfl | rfl | rfl | rfl | rfl | rfl | rfl
                  · obtain rfl : 101 = d := by simpa using hd
                    have q5 : ac.tmps[5]?.getD undef = .pointer (some ⟨w.heap.size + 1 + 1 + 1 + 1, 0, none⟩) := (eval_tmp _ _).symm.trans <| (hoff 5 (by decide)).trans rfl
                    refine lin_value rfl rfl rfl (v := .pointer (some ⟨w.heap.size + 1 + 1 + 1 + 1, 1, none⟩)) (W' := W) ?_ (World.grownBy.refl _ _) rfl (fun b h => by cases h)
                    simp only [execOp]
                    go_simp
                  · obtain rfl : 102 = d := by simpa using hd
                    have q101 : ac.tmps[101]?.getD undef = .pointer (some ⟨w.heap.size + 1 + 1 + 1 + 1, 1, none⟩) := (eval_tmp _ _).symm.trans (hdep 0 101 rfl rfl)
                    refine lin_value rfl rfl rfl (v := .slice (some ⟨mb, 0, none⟩) (n + 1) mc) (W' := W) ?_ (World.grownBy.refl _ _) ⟨⟨rfl, own_first HM6.out (fun b h => hfirst b (own1_self.trans h))⟩, fun b h => .inl h⟩ (fun b h => .inr (own1_self.trans h))
                    simp only [execOp]
                    go_simp
                  · obtain rfl : 103 = d := by simpa using hd
                    have q5 : ac.tmps[5]?.getD undef = .pointer (some ⟨w.heap.size + 1 + 1 + 1 + 1, 0, none⟩) := (eval_tmp _ _).symm.trans <| (hoff 5 (by decide)).trans rfl
                    refine lin_value rfl rfl rfl (v := .pointer (some ⟨w.heap.size + 1 + 1 + 1 + 1, 1, none⟩)) (W' := W) ?_ (World.grownBy.refl _ _) rfl (fun b h => by cases h)
                    simp only [execOp]
                    go_simp
                  · obtain rfl : 104 = d := by simpa using hd
                    have q103 : ac.tmps[103]?.getD undef = .pointer (some ⟨w.heap.size + 1 + 1 + 1 + 1, 1, none⟩) := (eval_tmp _ _).symm.trans (hdep 2 103 rfl rfl)
                    refine lin_value rfl rfl rfl (v := .slice (some ⟨mb, 0, none⟩) (n + 1) mc) (W' := W) ?_ (World.grownBy.refl _ _) rfl (fun b h => by cases h)
                    simp only [execOp]
                    go_simp
                  · obtain rfl : 105 = d := by simpa using hd
                    have q5 : ac.tmps[5]?.getD undef = .pointer (some ⟨w.heap.size + 1 + 1 + 1 + 1, 0, none⟩) := (eval_tmp _ _).symm.trans <| (hoff 5 (by decide)).trans rfl
                    refine lin_value rfl rfl rfl (v := .pointer (some ⟨w.heap.size + 1 + 1 + 1 + 1, 1, none⟩)) (W' := W) ?_ (World.grownBy.refl _ _) rfl (fun b h => by cases h)
                    simp only [execOp]
                    go_simp
                  · obtain rfl : 106 = d := by simpa using hd
                    have q105 : ac.tmps[105]?.getD undef = .pointer (some ⟨w.heap.size + 1 + 1 + 1 + 1, 1, none⟩) := (eval_tmp _ _).symm.trans (hdep 4 105 rfl rfl)
                    refine lin_value rfl rfl rfl (v := .slice (some ⟨mb, 0, none⟩) (n + 1) mc) (W' := W) ?_ (World.grownBy.refl _ _) rfl (fun b h => by cases h)
                    simp only [execOp]
                    go_simp
                  · obtain rfl : 107 = d := by simpa using hd
                    have q106 : ac.tmps[106]?.getD undef = .slice (some ⟨mb, 0, none⟩) (n + 1) mc := (eval_tmp _ _).symm.trans (hdep 5 106 rfl rfl)
                    refine lin_value rfl rfl rfl (v := .int .i64 ((n : Int) + 1)) (W' := W) ?_ (World.grownBy.refl _ _) rfl (fun b h => by cases h)
                    simp only [execOp]
                    go_simp
                  · obtain rfl : 108 = d := by simpa using hd
                    have q107 : ac.tmps[107]?.getD undef = .int .i64 ((n : Int) + 1) := (eval_tmp _ _).symm.trans (hdep 6 107 rfl rfl)
                    refine lin_value rfl rfl rfl (v := .int .i64 (n : Int)) (W' := W) ?_ (World.grownBy.refl _ _) rfl (fun b h => by cases h)
                    simp only [execOp]
                    go_simp
                  · obtain rfl : 109 = d := by simpa using hd
                    have q104 : ac.tmps[104]?.getD undef = .slice (some ⟨mb, 0, none⟩) (n + 1) mc := (eval_tmp _ _).symm.trans (hdep 3 104 rfl rfl)
                    have q108 : ac.tmps[108]?.getD undef = .int .i64 (n : Int) := (eval_tmp _ _).symm.trans (hdep 7 108 rfl rfl)
                    refine lin_value rfl rfl rfl (v := .pointer (some ⟨mb, n, none⟩)) (W' := W) ?_ (World.grownBy.refl _ _) rfl (fun b h => by cases h)
                    simp only [execOp]
                    go_simp
                  · obtain rfl : 110 = d := by simpa using hd
                    have q109 : ac.tmps[109]?.getD undef = .pointer (some ⟨mb, n, none⟩) := (eval_tmp _ _).symm.trans (hdep 8 109 rfl rfl)
                    have hpk := hpeek 1 (by omega) (fun k hk hc => by
                      have hk13 : k = 13 := by
                        by_cases e : k = 13
                        · exact e
                        · have h2 : takeL [(13, 1)] k = none := by simp [takeL, Ne.symm e]
                          rw [h2] at hc; cases hc
                      subst hk13
                      exact (by kernel_rfl : _ = true))
                    have xm : W.cell? ⟨mb, n, none⟩ = some (.int .i64 (S0 : Int)) := by
                      rcases hpk with h | ⟨v, h⟩
                      · have := h mb own1_self
                        rw [HMG.out] at this
                        rw [cell_of this]; exact HMC.out
                      · have h2 : v = .slice (some ⟨mb, 0, none⟩) (n + 1) mc ∧ W.ownsRow w.heap.size 3 1 v (n + 1) (ms.map (Value.int .i64)) := h.1
                        obtain ⟨rfl, h3⟩ := h2
                        exact row_cell h3 HMSL.out HLA.out
                    have e109 : ac.tmps[109]?.getD undef = .pointer (some ⟨mb, n, none⟩) := q109
                    refine lin_value rfl rfl rfl (v := .int .i64 (S0 : Int)) (W' := W) ?_ (World.grownBy.refl _ _) rfl (fun b h => by cases h)
                    simp only [execOp]
                    go_simp
                  · obtain rfl : 111 = d := by simpa using hd
                    have q12 : ac.tmps[12]?.getD undef = .int .i64 (M : Int) := (eval_tmp _ _).symm.trans <| (hoff 12 (by decide)).trans rfl
                    refine lin_value rfl rfl rfl (v := .int .i64 (M : Int)) (W' := W) ?_ (World.grownBy.refl _ _) rfl (fun b h => by cases h)
                    simp only [execOp]
                    go_simp
                  · obtain rfl : 112 = d := by simpa using hd
                    have e110 : (ac.eval (.tmp 110)) = .int .i64 (S0 : Int) := hdep 9 110 rfl rfl
                    have q111 : ac.tmps[111]?.getD undef = .int .i64 (M : Int) := (eval_tmp _ _).symm.trans (hdep 10 111 rfl rfl)
                    have q110 : ac.tmps[110]?.getD undef = .int .i64 (S0 : Int) := (eval_tmp _ _).symm.trans e110
                    refine lin_value rfl rfl rfl (v := .int .i64 (S1 : Int)) (W' := W) ?_ (World.grownBy.refl _ _) rfl (fun b h => by cases h)
                    simp only [execOp]
                    go_simp
                  · obtain rfl : 113 = d := by simpa using hd
                    have e112 : (ac.eval (.tmp 112)) = .int .i64 (S1 : Int) := hdep 11 112 rfl rfl
                    have q112 : ac.tmps[112]?.getD undef = .int .i64 (S1 : Int) := (eval_tmp _ _).symm.trans e112
                    refine lin_value rfl rfl rfl (v := .slice (some ⟨W.heap.size, 0, none⟩) 1 1) (W' := W.alloc (.cells #[.int .i64 (S1 : Int)] 3)) ?_ (below_grownBy ((Below.refl _ _).alloc (Nat.le_refl _) _)) ⟨_, rfl, .inr (by have := hb.size; omega), heap_new _ _⟩ (fun b h => .inl (src_key h))
                    simp only [execOp]
                    go_simp
                  · obtain rfl : 114 = d := by simpa using hd
                    have e102 : ((ac.eval (.tmp 102)) = .slice (some ⟨mb, 0, none⟩) (n + 1) mc ∧ W.ownsRow w.heap.size 3 1 ((ac.eval (.tmp 102))) (n + 1) (ms.map (Value.int .i64))) ∧ ∀ b, (((ac.eval (.tmp 102))) : Value).ownBlock = some b → ((.slice (some ⟨mb, 0, none⟩) (n + 1) mc : Value).ownBlock = some b ∨ w6.heap.size ≤ b) := hdep 1 102 rfl rfl
                    have e113 : ∃ A, (ac.eval (.tmp 113)) = .slice (some ⟨A, 0, none⟩) 1 1 ∧ ((.slice (some ⟨mb, 0, none⟩) (n + 1) mc : Value).ownBlock = some A ∨ w6.heap.size ≤ A) ∧ W.heap[A]? = some (.cells #[.int .i64 (S1 : Int)] 3) := hdep 12 113 rfl rfl
                    obtain ⟨A, hA, hok, hblk⟩ := e113
                    refine lin_onto (base := w.heap.size) (nn := n + 1) (m := 1) (c := 1) (j := 1) (xs := ms.map (Value.int .i64)) (news := [.int .i64 (S1 : Int)]) 102 113 rfl rfl rfl rfl Try.underlying28 hiI hz0 hz1 hz2 rfl (by decide) rfl e102.1.2 hA ⟨rfl, fun _ => ⟨_, rfl, World.news_of_block (fr := (0, 0)) hblk⟩⟩ (by simp [Value.oneCell']) (by unfold maxLen; omega) (by omega) (by have := hb.size; omega) rfl rfl rfl (fun A' c' W' h1 h2 h3 => ⟨⟨h1, fun b hb' => ?_⟩, rfl⟩)
                    rcases h3 with h3 | h3
                    · exact e102.2 b (h3 ▸ hb')
                    · rw [h3] at hb'
                      injection hb' with hb'
                      exact .inr (by have := hb.size; omega)
                case restB =>
                  intro vs W7 hvl hbk hval
                  obtain ⟨l0, l1, l2, l3, l4, l5, l6, l7, l8, l9, l10, l11, l12, l13, rfl⟩ : ∃ l0 l1 l2 l3 l4 l5 l6 l7 l8 l9 l10 l11 l12 l13, vs = [l0, l1, l2, l3, l4, l5, l6, l7, l8, l9, l10, l11, l12, l13] := by
                    match vs, hvl with
                    | [l0, l1, l2, l3, l4, l5, l6, l7, l8, l9, l10, l11, l12, l13], _ => exact ⟨l0, l1, l2, l3, l4, l5, l6, l7, l8, l9, l10, l11, l12, l13, rfl⟩
                  obtain rfl : l0 = .pointer (some ⟨w.heap.size + 1 + 1 + 1 + 1, 1, none⟩) := by obtain ⟨u, e, h⟩ := hval 0 (by omega) (takeL_not (by decide)); have e2 : some l0 = some u := e; injection e2 with e2; subst e2; exact h
                  obtain rfl : l2 = .pointer (some ⟨w.heap.size + 1 + 1 + 1 + 1, 1, none⟩) := by obtain ⟨u, e, h⟩ := hval 2 (by omega) (takeL_not (by decide)); have e2 : some l2 = some u := e; injection e2 with e2; subst e2; exact h
                  obtain rfl : l3 = .slice (some ⟨mb, 0, none⟩) (n + 1) mc := by obtain ⟨u, e, h⟩ := hval 3 (by omega) (takeL_not (by decide)); have e2 : some l3 = some u := e; injection e2 with e2; subst e2; exact h
                  obtain rfl : l4 = .pointer (some ⟨w.heap.size + 1 + 1 + 1 + 1, 1, none⟩) := by obtain ⟨u, e, h⟩ := hval 4 (by omega) (takeL_not (by decide)); have e2 : some l4 = some u := e; injection e2 with e2; subst e2; exact h
                  obtain rfl : l5 = .slice (some ⟨mb, 0, none⟩) (n + 1) mc := by obtain ⟨u, e, h⟩ := hval 5 (by omega) (takeL_not (by decide)); have e2 : some l5 = some u := e; injection e2 with e2; subst e2; exact h
                  obtain rfl : l6 = .int .i64 ((n : Int) + 1) := by obtain ⟨u, e, h⟩ := hval 6 (by omega) (takeL_not (by decide)); have e2 : some l6 = some u := e; injection e2 with e2; subst e2; exact h
                  obtain rfl : l7 = .int .i64 (n : Int) := by obtain ⟨u, e, h⟩ := hval 7 (by omega) (takeL_not (by decide)); have e2 : some l7 = some u := e; injection e2 with e2; subst e2; exact h
                  obtain rfl : l8 = .pointer (some ⟨mb, n, none⟩) := by obtain ⟨u, e, h⟩ := hval 8 (by omega) (takeL_not (by decide)); have e2 : some l8 = some u := e; injection e2 with e2; subst e2; exact h
                  have k9 : l9 = .int .i64 (S0 : Int) := by obtain ⟨u, e, h⟩ := hval 9 (by omega) (takeL_not (by decide)); have e2 : some l9 = some u := e; injection e2 with e2; subst e2; exact h
                  obtain rfl : l10 = .int .i64 (M : Int) := by obtain ⟨u, e, h⟩ := hval 10 (by omega) (takeL_not (by decide)); have e2 : some l10 = some u := e; injection e2 with e2; subst e2; exact h
                  have k11 : l11 = .int .i64 (S1 : Int) := by obtain ⟨u, e, h⟩ := hval 11 (by omega) (takeL_not (by decide)); have e2 : some l11 = some u := e; injection e2 with e2; subst e2; exact h
                  have k12 : ∃ A, l12 = .slice (some ⟨A, 0, none⟩) 1 1 ∧ ((.slice (some ⟨mb, 0, none⟩) (n + 1) mc : Value).ownBlock = some A ∨ w6.heap.size ≤ A) ∧ W7.heap[A]? = some (.cells #[.int .i64 (S1 : Int)] 3) := by obtain ⟨u, e, h⟩ := hval 12 (by omega) (takeL_not (by decide)); have e2 : some l12 = some u := e; injection e2 with e2; subst e2; exact h
                  have k13 : W7.ownsRow w.heap.size 3 1 (l13) (n + 1 + 1) ((ms.map (Value.int .i64)) ++ [.int .i64 (S1 : Int)]) ∧ ∀ b, ((l13) : Value).ownBlock = some b → ((.slice (some ⟨mb, 0, none⟩) (n + 1) mc : Value).ownBlock = some b ∨ w6.heap.size ≤ b) := by obtain ⟨u, e, h⟩ := hval 13 (by omega) (takeL_not (by decide)); have e2 : some l13 = some u := e; injection e2 with e2; subst e2; exact h
                  clear hval hvl
                  obtain ⟨hr13, hk13⟩ := k13
                  obtain ⟨A7, c7, rfl, _⟩ := own_form hr13
                  obtain rfl := k9
                  obtain rfl := k11
                  clear k12
                  simp only [putL, Act.put, List.drop, List.setIfInBounds_toArray, List.set_cons_zero, List.set_cons_succ]
                --E18--
                  have hbx := (hbk.block _ (heap_lt HPR2.out.box) NB18).trans HPR2.out.box
                  obtain ⟨r0, r1, r2, r3⟩ := cells4 hbx
                  have r4 := froz hbx
                  have hkk : KeptBut (fun b => (Value.slice (some ⟨mb, 0, none⟩) (n + 1) mc).ownBlock = some b) w6 W7 := ⟨hbk.os, hbk.tape, hbk.output, hbk.size, fun k hk ho => hbk.block k hk (fun h => by rcases h with h | h; exact ho h; omega)⟩
                  have hkk2 := (hkk.mono (own' := fun b => (Value.slice (some ⟨mb, 0, none⟩) (n + 1) mc).ownBlock = some b ∨ b = w.heap.size + 1 + 1 + 1 + 1) (fun _ _ h => .inl h)).trans (KeptBut.setCell W7 ⟨w.heap.size + 1 + 1 + 1 + 1, 1, none⟩ (.slice A7 (n + 1 + 1) c7) (.inr rfl))
                  have hpr3 : Pr w (w.heap.size + 1 + 1) (w.heap.size + 1 + 1 + 1 + 1) bw ba R f g L (usedL F V k ++ [(a, b)]) (ms ++ [(S1 : Int)]) ((lessTo F k).map (fun x : Nat => (x : Int))) (.slice A' (n + 1) c') (.slice A7 (n + 1 + 1) c7) sv (W7.setCell ⟨w.heap.size + 1 + 1 + 1 + 1, 1, none⟩ (.slice A7 (n + 1 + 1) c7)) :=
                    HPR2.out.counted (x := (S1 : Int)) hkk2 (heap_setCell_same hbx) (by rw [HMSL.out]; exact own_keep hr13 (KeptBut.setCell (own := fun b => b = w.heap.size + 1 + 1 + 1 + 1) _ _ _ rfl) (fun b hb e => by
                      rcases hk13 b hb with h | h
                      · exact NB18 (.inl (e ▸ h))
                      · omega)) hk13
                  have HPR3 := Lib.hid hpr3
                  have HU := Lib.hid (show usedL F V (k + 1) = usedL F V k ++ [(a, b)] by simp only [usedL]; rw [HM.out, if_pos (by omega), HVK.out])
                  have HMM := Lib.hid (show (manyL F (k + 1)).map (fun x : Nat => (x : Int)) = ms ++ [(S1 : Int)] by simp only [manyL]; rw [HM.out, if_pos (by omega), List.map_append, HMS.out, HS1.out]; rfl)
                  clear hkk hkk2 hpr3 hr13 hk13 hbk hbx p0 p1 p2 p3 p4
                  go_wp2_with fail
                  go_meet
                  rw [HU.out, HMM.out]
                  exact ⟨_, _, _, HPR3⟩
          case rest =>
            obtain ⟨av2, mv2, sv2, hp2⟩ := hcut
            obtain ⟨w8, hw8⟩ : ∃ w8, w8 = wc := ⟨_, rfl⟩
            rw [← hw8] at hp2 ⊢
            clear hw8 hp c1 HM
            have hpo := hp2.out
            obtain ⟨p0, p1, p2, p3⟩ := cells4 hpo.box
            have p4 := froz hpo.box
            obtain ⟨aA, acap, rfl, _⟩ := own_form hpo.a
            obtain ⟨sA, scap, rfl, _⟩ := own_form hpo.l
            have hul : (usedL F V (k + 1)).length = posTo F (k + 1) := used_len F V (k + 1)
            have hll : ((lessTo F k).map (fun x : Nat => (x : Int))).length = k + 1 := by rw [List.length_map, lessTo_len]
            have hple := posTo_le F (k + 1)
            obtain ⟨D, hD⟩ : ∃ D, posTo F (k + 1) = D := ⟨_, rfl⟩
            rw [hD] at hul hple
            have HOL := hpo.l
            rw [hll] at HOL p3
            rw [hul] at p0
            have HL2 := Lib.hid HOL
            have HUL := Lib.hid hul
            have HLL := Lib.hid hll
            have HDD := Lib.hid hD
            have HBX := Lib.hid hpo.box
            have HFR := Lib.hid (fun b h => hpo.fr b (.inr (.inr h)))
            rw [hll] at HFR HBX
            have hlts := hpo.lts
            have hszw : w.heap.size ≤ w8.heap.size := hpo.below.size
            obtain ⟨iI, hiI, hz0, hz1, hz2⟩ := info_parts Try_infoI
            clear hpo HOL hul hll hD
            go_wp2_with (at_builtin; refine wpList_onto (base := w.heap.size) (v := .slice sA (k + 1) scap) (n := k + 1) (xs := ((lessTo F k).map (fun x : Nat => (x : Int))).map (Value.int .i64)) (A := some ⟨w8.heap.size, 0, none⟩) (m := 1) (c := 1) (news := [.int .i64 (D : Int)]) rfl (.tmp 117) (.tmp 121) rfl Try.underlying28 hiI hz0 hz1 hz2 rfl (by decide) rfl (HL2.out.alloc _) rfl ⟨rfl, fun _ => ⟨_, rfl, cell_one_new _ _ _⟩⟩ (by simp [Value.oneCell']) (by unfold maxLen; omega) (by omega) (by simp; omega) ?_; intro A9 c9 w9 hown9 hgrow9 hat9; have hk9 : KeptBut (fun b => (Value.slice sA (k + 1) scap).ownBlock = some b) w8 w9 := kept_grown0 hgrow9; have hbx9 := (hk9.block _ (heap_lt HBX.out) (fun e => (HFR.out _ e).2.1 rfl)).trans HBX.out; obtain ⟨r0, r1, r2, r3⟩ := cells4 hbx9; have r4 := froz hbx9; have HBX9 := Lib.hid hbx9; have HK9 := Lib.hid hk9; have HOWN9 := Lib.hid hown9; have HAT9 := Lib.hid hat9; clear hbx9 hk9 hown9 hat9 hgrow9 p0 p1 p2 p3 p4)
            have hkk2 := (HK9.out.mono (own' := fun b => (Value.slice sA (k + 1) scap).ownBlock = some b ∨ b = w.heap.size + 1 + 1 + 1 + 1) (fun _ _ h => .inl h)).trans (KeptBut.setCell w9 ⟨w.heap.size + 1 + 1 + 1 + 1, 3, none⟩ (.slice A9 (k + 1 + 1) c9) (.inr rfl))
            have hn9 : ∀ b, (Value.slice A9 (k + 1 + 1) c9).ownBlock = some b → (Value.slice sA (k + 1) scap).ownBlock = some b ∨ w8.heap.size ≤ b := fun b hb => by
              rcases HAT9.out with h | h
              · exact .inl (h ▸ hb)
              · rw [h] at hb; injection hb with hb; right; simp at hb; omega
            have hpr9 := hp2.out.lessed (x := (D : Int)) (sv' := .slice A9 (k + 1 + 1) c9) (W2 := w9.setCell ⟨w.heap.size + 1 + 1 + 1 + 1, 3, none⟩ (.slice A9 (k + 1 + 1) c9)) (by rw [HLL.out]; exact hkk2) (heap_setCell_same (by
                have := (HK9.out.block _ (heap_lt HBX.out) (fun e => (HFR.out _ e).2.1 rfl)).trans HBX.out
                exact this)) (by rw [HLL.out]; exact own_keep HOWN9.out (KeptBut.setCell (own := fun b => b = w.heap.size + 1 + 1 + 1 + 1) _ _ _ rfl) (fun b hb e => by
                  rcases hn9 b hb with h | h
                  · exact (HFR.out b h).2.1 e
                  · omega)) (by rw [HLL.out]; exact hn9)
            refine ⟨⟨k + 1, by omega, by go_num, .slice aA (usedL F V (k + 1)).length acap, mv2, .slice A9 (k + 1 + 1) c9, ?_⟩, by simp [intOf]; omega⟩
            rw [lessTo_succ, List.map_append, HDD.out]
            exact Lib.hid hpr9
        · obtain rfl : R = k := by omega
          have hpo := hp.out
          obtain ⟨aA, acap, rfl, _⟩ := own_form hpo.a
          obtain ⟨mA, mcap, rfl, _⟩ := own_form hpo.m
          obtain ⟨sA, scap, rfl, _⟩ := own_form hpo.l
          obtain ⟨na, hna⟩ : ∃ n, (usedL F V R).length = n := ⟨_, rfl⟩
          obtain ⟨nm, hnm⟩ : ∃ n, ((manyL F R).map (fun x : Nat => (x : Int))).length = n := ⟨_, rfl⟩
          obtain ⟨nl, hnl⟩ : ∃ n, ((lessTo F R).map (fun x : Nat => (x : Int))).length = n := ⟨_, rfl⟩
          rw [hna, hnm, hnl] at hpo
          have HNA := Lib.hid hna
          have HNM := Lib.hid hnm
          have HNL := Lib.hid hnl
          clear hna hnm hnl
          obtain ⟨p0, p1, p2, p3⟩ := cells4 hpo.box
          have p4 := froz hpo.box
          obtain ⟨q0, q1, q2, q3⟩ := cells4 hpo.res
          have q4 := froz hpo.res
          have n1 := hpo.lo.2.2.1
          have hlast := pr_last (A := (A1, A2)) (D := (B1, B2)) (h := show Pr w (w.heap.size + 1 + 1) (w.heap.size + 1 + 1 + 1 + 1) bw ba R f g L (armsOf (A1, A2) (B1, B2)) (manyI (A1, A2) (B1, B2)) (lessI (A1, A2) (B1, B2)) (.slice aA na acap) (.slice mA nm mcap) (.slice sA nl scap) w5 from by
            rw [armsOf, manyI, lessI, HF.out, HV.out, HR.out]; exact hpo) HL.out (by rw [HF.out]; exact HSM.out) (by rw [HR.out]; exact hR3)
          have HLAST := Lib.hid hlast
          clear hpo hlast
          go_wp2_with fail
          obtain ⟨hfin, hbf, hput⟩ := HLAST.out
          obtain ⟨s0, s1, s2, s3⟩ := cells4 hput
          unfold put4 at s0 s1 s2 s3 hbf hfin
          refine bodyPost_ret (v := .agg #[.slice aA na acap, .slice mA nm mcap, .int .i64 L, .slice sA nl scap]) (by simp [results, Try.results84, go_sem, s0, s1, s2, s3]) rfl ?_
          exact ⟨_, rfl, hfin, hbf⟩
end Go.Proofs.Ytomcjopcfdllgaa
