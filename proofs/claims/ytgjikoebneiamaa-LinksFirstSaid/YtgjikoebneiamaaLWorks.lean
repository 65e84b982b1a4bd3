/-
  Links, the law's own functions: the example's answers.
-/
import Derived.Test.YtgjikoebneiamaaLLaw1
import Derived.Test.YtgjikoebneiamaaLWho
import Derived.Test.YtgjikoebneiamaaLFirst
import Derived.Test.YtgjikoebneiamaaLFar

namespace Go.Proofs.Ytgjikoebneiamaa
open Go.RowKit Go.Shelf

theorem heap3 (w : World) (o0 o1 o2 : Obj) : (((w.alloc o0).alloc o1).alloc o2).heap[w.heap.size]? = some o0 ∧ (((w.alloc o0).alloc o1).alloc o2).heap[w.heap.size + 1]? = some o1 ∧ (((w.alloc o0).alloc o1).alloc o2).heap[w.heap.size + 1 + 1]? = some o2 ∧
    Below w.heap.size w (((w.alloc o0).alloc o1).alloc o2) ∧ (((w.alloc o0).alloc o1).alloc o2).heap.size = w.heap.size + 3 := by
  refine ⟨?_, ?_, heap_new2 w o0 o1 o2, (((Below.refl _ w).alloc (Nat.le_refl _) _).alloc (by simp) _).alloc (by simp; omega) _, by simp⟩
  · rw [Below.heap_alloc _ _ _ (by simp <;> omega)]; exact heap_old1 _ _ _
  · rw [Below.heap_alloc _ _ _ (by simp)]; exact heap_new1 _ _ _

theorem box3f_of {w : World} {b : Nat} {v0 v1 v2 : Value} {t : TypeId} (e : w.heap[b]? = some (.cells #[v0, v1, v2] t)) :
    (w.cell? ⟨b, 0, none⟩ = some v0 ∧ w.cell? ⟨b, 1, none⟩ = some v1 ∧ w.cell? ⟨b, 2, none⟩ = some v2) ∧ ∀ j, w.frozen? ⟨b, j, none⟩ = false := by
  refine ⟨⟨?_, ?_, ?_⟩, fun j => ?_⟩ <;> simp [World.cell?, World.frozen?, e]
def exST : Chain := ⟨exK.deeds, [exS, exT], 0⟩
theorem exK_valid : validB exK = true := by decide +kernel
theorem exST_valid : validB exST = true := by decide +kernel
theorem exK_many : (truthsP exK).length = 2 := by decide +kernel
theorem exK_who : srt ((truthsP exK).map (linkAt exK 1)) = [1, 2] := by
  rw [srt_sel (lo := 0) (n := 12) (by decide +kernel)]; decide +kernel
theorem exK_where : srt ((truthsP exK).map (placeOf exK 2)) = [-1, 1] := by
  rw [srt_sel (lo := -1) (n := 13) (by decide +kernel)]; decide +kernel
theorem exST_first : firstV exST = 1 ∧ firstE exST = 0 := by decide +kernel

theorem exK_deeds {g : Nat} {t : TypeId} {W : World} (h : W.heap[g]? = some (.cells exCells t)) : DeedsTo W.heap.size W (.slice (some ⟨g, 0, none⟩) 6 6) exK.deeds 6 := by
  refine ⟨_, 6, g, 0, rfl, Nat.le_refl _, by unfold maxLen; omega, fun _ => ⟨rfl, heap_lt h⟩, fun i hi => ?_, fun i hi => ?_⟩
  · have hc : ∀ j u, exCells[j]? = some u → W.cell? ⟨g, j, none⟩ = some u := fun j u hu => cells_of h hu
    match i, hi with
    | 0, _ => exact ⟨hc 0 _ rfl, hc 1 _ rfl, hc 2 _ rfl, hc 3 _ rfl, hc 4 _ rfl⟩
    | 1, _ => exact ⟨hc 5 _ rfl, hc 6 _ rfl, hc 7 _ rfl, hc 8 _ rfl, hc 9 _ rfl⟩
    | 2, _ => exact ⟨hc 10 _ rfl, hc 11 _ rfl, hc 12 _ rfl, hc 13 _ rfl, hc 14 _ rfl⟩
    | 3, _ => exact ⟨hc 15 _ rfl, hc 16 _ rfl, hc 17 _ rfl, hc 18 _ rfl, hc 19 _ rfl⟩
    | 4, _ => exact ⟨hc 20 _ rfl, hc 21 _ rfl, hc 22 _ rfl, hc 23 _ rfl, hc 24 _ rfl⟩
    | 5, _ => exact ⟨hc 25 _ rfl, hc 26 _ rfl, hc 27 _ rfl, hc 28 _ rfl, hc 29 _ rfl⟩
  · match i, hi with
    | 0, _ => exact ⟨⟨by decide, by decide⟩, ⟨by decide, by decide⟩, ⟨by decide, by decide⟩, ⟨by decide, by decide⟩, ⟨by decide, by decide⟩⟩
    | 1, _ => exact ⟨⟨by decide, by decide⟩, ⟨by decide, by decide⟩, ⟨by decide, by decide⟩, ⟨by decide, by decide⟩, ⟨by decide, by decide⟩⟩
    | 2, _ => exact ⟨⟨by decide, by decide⟩, ⟨by decide, by decide⟩, ⟨by decide, by decide⟩, ⟨by decide, by decide⟩, ⟨by decide, by decide⟩⟩
    | 3, _ => exact ⟨⟨by decide, by decide⟩, ⟨by decide, by decide⟩, ⟨by decide, by decide⟩, ⟨by decide, by decide⟩, ⟨by decide, by decide⟩⟩
    | 4, _ => exact ⟨⟨by decide, by decide⟩, ⟨by decide, by decide⟩, ⟨by decide, by decide⟩, ⟨by decide, by decide⟩, ⟨by decide, by decide⟩⟩
    | 5, _ => exact ⟨⟨by decide, by decide⟩, ⟨by decide, by decide⟩, ⟨by decide, by decide⟩, ⟨by decide, by decide⟩, ⟨by decide, by decide⟩⟩
theorem exK_at {g : Nat} {t : TypeId} {W : World} (h : W.heap[g]? = some (.cells exCells t)) : ChainAt W.heap.size W (.agg #[.slice (some ⟨g, 0, none⟩) 6 6, .slice none 0 0, .int .i64 0]) exK :=
  ⟨_, _, rfl, exK_deeds h, ⟨none, 0, 0, 0, rfl, Nat.le_refl _, by unfold maxLen; omega, fun h => absurd h (by decide), fun i hi => absurd hi (by simp [exK]), fun i hi => absurd hi (by simp [exK])⟩, ⟨by decide, by decide⟩⟩
def exSCells : Array Value := #[.int .i64 6, .int .i64 1, .int .i64 0, .int .i64 6, .int .i64 (-1), .int .i64 6, .int .i64 0, .int .i64 0, .int .i64 (-1), .int .i64 1]
theorem exST_at {g s : Nat} {t u : TypeId} {W : World} (h : W.heap[g]? = some (.cells exCells t)) (hs : W.heap[s]? = some (.cells exSCells u)) : ChainAt W.heap.size W (.agg #[.slice (some ⟨g, 0, none⟩) 6 6, .slice (some ⟨s, 0, none⟩) 2 2, .int .i64 0]) exST := by
  refine ⟨_, _, rfl, exK_deeds h, ⟨_, 2, s, 0, rfl, Nat.le_refl _, by unfold maxLen; omega, fun _ => ⟨rfl, heap_lt hs⟩, fun i hi => ?_, fun i hi => ?_⟩, ⟨by decide, by decide⟩⟩
  · have hc : ∀ j u, exSCells[j]? = some u → W.cell? ⟨s, j, none⟩ = some u := fun j u hu => cells_of hs hu
    match i, hi with
    | 0, _ => exact ⟨hc 0 _ rfl, hc 1 _ rfl, hc 2 _ rfl, hc 3 _ rfl, hc 4 _ rfl⟩
    | 1, _ => exact ⟨hc 5 _ rfl, hc 6 _ rfl, hc 7 _ rfl, hc 8 _ rfl, hc 9 _ rfl⟩
  · match i, hi with
    | 0, _ => exact ⟨⟨by decide, by decide⟩, ⟨by decide, by decide⟩, ⟨by decide, by decide⟩, ⟨by decide, by decide⟩, ⟨by decide, by decide⟩⟩
    | 1, _ => exact ⟨⟨by decide, by decide⟩, ⟨by decide, by decide⟩, ⟨by decide, by decide⟩, ⟨by decide, by decide⟩, ⟨by decide, by decide⟩⟩
theorem ManyK {a : Option Addr} {w : World} (hx : ChainAt w.heap.size w (.agg #[.slice a 6 6, .slice none 0 0, .int .i64 0]) exK) :
    Calls Try.prog 22 #[.agg #[.slice a 6 6, .slice none 0 0, .int .i64 0]] w fun e w' => e = .returned (.tuple #[.int .i64 2, .int .i64 0]) ∧ Below w.heap.size w w' := by
  have := Many_any a none 6 0 exK w hx exK_valid
  rw [exK_many] at this
  exact this
theorem WhoK {a : Option Addr} {w : World} (hx : ChainAt w.heap.size w (.agg #[.slice a 6 6, .slice none 0 0, .int .i64 0]) exK) :
    Calls Try.prog 24 #[.agg #[.slice a 6 6, .slice none 0 0, .int .i64 0], .int .i64 1] w fun e w' => ∃ v, e = .returned (.tuple #[v, .int .i64 0]) ∧ IntsAt w'.heap.size w' v [1, 2] ∧ Below w.heap.size w w' := by
  have := Who_ok a none 6 0 exK 1 w hx exK_valid (by decide)
  rw [exK_who, exK_many] at this
  exact this
theorem WhereK {a : Option Addr} {w : World} (hx : ChainAt w.heap.size w (.agg #[.slice a 6 6, .slice none 0 0, .int .i64 0]) exK) :
    Calls Try.prog 32 #[.agg #[.slice a 6 6, .slice none 0 0, .int .i64 0], .int .i64 2] w fun e w' => ∃ v, e = .returned (.tuple #[v, .int .i64 0]) ∧ IntsAt w'.heap.size w' v [-1, 1] ∧ Below w.heap.size w w' := by
  have := Where_ok a none 6 0 exK 2 w hx exK_valid (by decide +kernel)
  rw [exK_where, exK_many] at this
  exact this
theorem FirstK {a b : Option Addr} {w : World} (hx : ChainAt w.heap.size w (.agg #[.slice a 6 6, .slice b 2 2, .int .i64 0]) exST) :
    Calls Try.prog 40 #[.agg #[.slice a 6 6, .slice b 2 2, .int .i64 0]] w fun e w' => e = .returned (.tuple #[.int .i64 1, .int .i64 0]) ∧ Below w.heap.size w w' := by
  have := First_any a b 6 2 exST w hx exST_valid
  rw [exST_first.1, exST_first.2] at this
  exact this

/-- Two numbers side by side don't lie in a box that begins with two slices. -/
theorem ints_far {w X : World} {v : Value} {xs : List Int} {b0 n1 k1 n2 k2 : Nat} {a1 a2 : Option Addr} {z : Value} {t : TypeId} (h : IntsAt w.heap.size w v xs)
    (hx : w.heap[b0]? = some (.cells #[.slice a1 n1 k1, .slice a2 n2 k2, z] t)) (h2 : 2 ≤ xs.length) (hX : ∀ k, k < w.heap.size → k ≠ b0 → X.heap[k]? = w.heap[k]?) (hs : w.heap.size ≤ X.heap.size) : IntsAt X.heap.size X v xs := by
  obtain ⟨a, cap, b, off, hv, hl, hm, ha, hc, hw⟩ := h
  have hb := (ha (by omega)).2
  have hne : b ≠ b0 := by
    rintro rfl
    have q0 := hc 0 (by omega)
    have q1 := hc 1 (by omega)
    match off, q0, q1 with
    | 0, q0, _ => simp [World.cell?, hx] at q0
    | 1, q0, _ => simp [World.cell?, hx] at q0
    | 2, _, q1 => simp [World.cell?, hx] at q1
    | n + 3, q0, _ => simp [World.cell?, hx] at q0
  exact ⟨a, cap, b, off, hv, hl, hm, fun h => ⟨(ha h).1, by omega⟩, fun i hi => (World.cell?_of_block (a := ⟨b, off + i, none⟩) (hX b hb hne)).trans (hc i hi), hw⟩

set_option maxRecDepth 100000 in
set_option maxHeartbeats 4000000 in
theorem works_any (w : World) : Calls Try.prog 14 #[] w fun e w' => e = .returned (.bool true) ∧ Below w.heap.size w w' := by
  go_enter Try.func14, Try.ntmps14
  go_wp2_with fail
  refine (Example_any _).mono ?_
  rintro e w1 ⟨g, t, rfl, hg, hle, hb1⟩
  have HG := Lib.hid hg
  have HB1 := Lib.hid hb1
  clear hg hb1
  simp only [sV, exS, exT]
  go_wp2_with fail
  obtain ⟨W, hW⟩ : ∃ W, W = ((w1.alloc (.cells #[.slice (some ⟨g, 0, none⟩) 6 6, .slice none 0 0, .int .i64 0] 25)).alloc (.cells #[.int .i64 6, .int .i64 1, .int .i64 0, .int .i64 6, .int .i64 (-1)] 60)).alloc (.cells #[.int .i64 6, .int .i64 0, .int .i64 0, .int .i64 (-1), .int .i64 1] 60) := ⟨_, rfl⟩
  have h3 := heap3 w1 (.cells #[.slice (some ⟨g, 0, none⟩) 6 6, .slice none 0 0, .int .i64 0] 25) (.cells #[.int .i64 6, .int .i64 1, .int .i64 0, .int .i64 6, .int .i64 (-1)] 60) (.cells #[.int .i64 6, .int .i64 0, .int .i64 0, .int .i64 (-1), .int .i64 1] 60)
  rw [← hW] at h3 ⊢
  clear hW
  obtain ⟨e0, e1, e2, hb, hsz⟩ := h3
  have hgl := heap_lt HG.out
  have HS0 := Lib.hid (show LStat w1 W w1.heap.size (.slice (some ⟨g, 0, none⟩) 6 6) (.slice none 0 0) (.int .i64 0) exK from ⟨e0, exK_at ((hb.block g hgl).trans HG.out), hb⟩)
  have HGW := Lib.hid ((hb.block g hgl).trans HG.out)
  have HBW := Lib.hid hb
  have E1 := Lib.hid e1
  have E2 := Lib.hid e2
  clear hb e0 e1 e2
  refine (ManyK HS0.out.st).mono ?_
  rintro e w2 ⟨rfl, hb⟩
  have hs := HS0.out.next hb
  obtain ⟨c0, c1, c2⟩ := hs.cells
  have HB2 := Lib.hid hb
  have HS2 := Lib.hid hs
  clear hs hb
  go_wp2_with fail
  refine (WhoK HS2.out.st).mono ?_
  rintro e w3 ⟨v3, rfl, hv3, hb⟩
  obtain ⟨a3, k3, b3, o3, rfl, _⟩ := hv3.opened
  have hs := HS2.out.next hb
  clear c0 c1 c2
  obtain ⟨c0, c1, c2⟩ := hs.cells
  have HB3 := Lib.hid (HB2.out.trans (hb.mono HB2.out.size))
  have HS3 := Lib.hid hs
  have HV3 := Lib.hid hv3
  clear hs hb hv3
  go_wp2_with fail
  refine (WhereK HS3.out.st).mono ?_
  rintro e w4 ⟨v4, rfl, hv4, hb⟩
  obtain ⟨a4, k4, b4, o4, rfl, _⟩ := hv4.opened
  have hs := HS3.out.next hb
  clear c0 c1 c2
  have HB4 := Lib.hid (HB3.out.trans (hb.mono HB3.out.size))
  have e0 := hs.blk
  have e1 := (HB4.out.block _ (by omega)).trans E1.out
  have e2 := (HB4.out.block _ (by omega)).trans E2.out
  obtain ⟨⟨c0, c1, c2⟩, cf⟩ := box3f_of e0
  have cf1 := cf 1
  have y0 := cells_of (i := 0) e1 rfl
  have y1 := cells_of (i := 1) e1 rfl
  have y2 := cells_of (i := 2) e1 rfl
  have y3 := cells_of (i := 3) e1 rfl
  have y4 := cells_of (i := 4) e1 rfl
  have z0 := cells_of (i := 0) e2 rfl
  have z1 := cells_of (i := 1) e2 rfl
  have z2 := cells_of (i := 2) e2 rfl
  have z3 := cells_of (i := 3) e2 rfl
  have z4 := cells_of (i := 4) e2 rfl
  have HS4 := Lib.hid hs
  have HV3' := Lib.hid ((HV3.out.below hb).mono hb.size)
  have HV4 := Lib.hid hv4
  have hl4 := heap_lt e0
  have hg4 := (HB4.out.block g (heap_lt HGW.out)).trans HGW.out
  have HG4 := Lib.hid hg4
  clear hs hb hv4 cf e0 e1 e2 hg4
  go_wp2_with fail
  obtain ⟨X, hX⟩ : ∃ X, X = (w4.setCell ⟨w1.heap.size, 1, none⟩ (.slice (some ⟨w4.heap.size, 0, none⟩) 2 2)).alloc (.cells exSCells 60) := ⟨_, rfl⟩
  have hsX : X.heap.size = w4.heap.size + 1 := by rw [hX]; simp
  have hx0 : X.heap[w1.heap.size]? = some (.cells #[.slice (some ⟨g, 0, none⟩) 6 6, .slice (some ⟨w4.heap.size, 0, none⟩) 2 2, .int .i64 0] 25) := by
    rw [hX, Below.heap_alloc _ _ _ (by rw [size_setCell]; exact hl4), heap_setCell_same HS4.out.blk]; rfl
  have hxs : X.heap[w4.heap.size]? = some (.cells exSCells 60) := by
    rw [hX]
    have := heap_new (w4.setCell ⟨w1.heap.size, 1, none⟩ (.slice (some ⟨w4.heap.size, 0, none⟩) 2 2)) (.cells exSCells 60)
    rwa [size_setCell] at this
  have hbX : Below w1.heap.size w1 X := by
    rw [hX]
    exact (below_setCell HS4.out.b (Nat.le_refl _)).alloc (by have := HS4.out.b.size; rw [size_setCell]; exact this) _
  have hoX : ∀ k, k < w4.heap.size → k ≠ w1.heap.size → X.heap[k]? = w4.heap[k]? := fun k hk hn => by
    rw [hX, Below.heap_alloc _ _ _ (by rw [size_setCell]; exact hk), heap_setCell_other (Ne.symm hn)]
  unfold exSCells at hX
  rw [← hX]
  clear hX c0 c1 c2 cf1 y0 y1 y2 y3 y4 z0 z1 z2 z3 z4
  have hgX := (hoX g (heap_lt HG4.out) (by omega)).trans HG4.out
  have HSX := Lib.hid (show LStat w1 X w1.heap.size (.slice (some ⟨g, 0, none⟩) 6 6) (.slice (some ⟨w4.heap.size, 0, none⟩) 2 2) (.int .i64 0) exST from ⟨hx0, exST_at hgX hxs, hbX⟩)
  have HO := Lib.hid hoX
  clear hx0 hxs hbX hoX hgX
  refine (FirstK HSX.out.st).mono ?_
  rintro e w5 ⟨rfl, hb⟩
  have HB5 := Lib.hid hb
  have HF := Lib.hid (HB1.out.trans (((HSX.out.next hb).b).mono HB1.out.size))
  clear hb
  have h5 : X.heap.size ≤ w5.heap.size := HB5.out.size
  have HV3X := Lib.hid (((ints_far HV3'.out HS4.out.blk (by simp) HO.out (by omega)).below HB5.out).mono h5)
  have HV4X := Lib.hid (((ints_far HV4.out HS4.out.blk (by simp) HO.out (by omega)).below HB5.out).mono h5)
  go_wp2_with fail
  refine (SameInts_to (r := true) (by decide) (HV3X.out.below ((Below.refl _ w5).alloc (Nat.le_refl _) (.cells #[.int .i64 1, .int .i64 2] 3))) (ints_lit (B := w5.heap.size + 1) (xs := [1, 2]) (heap_new w5 _) (by omega) rfl (lit2 _ _) (by intro x hx; simp at hx; rcases hx with rfl | rfl <;> exact ⟨by decide, by decide⟩))).mono ?_
  rintro e w6 ⟨rfl, hb⟩
  have HB6 := Lib.hid (show Below w5.heap.size w5 w6 from ((Below.refl _ w5).alloc (Nat.le_refl _) _).trans (hb.mono (by simp)))
  clear hb
  go_wp2_with fail
  refine (SameInts_to (r := true) (by decide) ((HV4X.out.below HB6.out).below (((Below.refl _ w6).alloc HB6.out.size (.cells #[.int .i64 (-1), .int .i64 1] 3)))) (ints_lit (B := w6.heap.size + 1) (xs := [-1, 1]) (heap_new w6 _) (by omega) rfl (lit2 _ _) (by intro x hx; simp at hx; rcases hx with rfl | rfl <;> exact ⟨by decide, by decide⟩))).mono ?_
  rintro e w7 ⟨rfl, hb⟩
  have HF7 := Lib.hid (show Below w.heap.size w w7 from by
    have h1 := HF.out.trans (HB6.out.mono HF.out.size)
    exact h1.trans ((((Below.refl _ w6).alloc (Nat.le_refl _) _).trans (hb.mono (by simp))).mono h1.size))
  clear hb
  go_wp2
  go_ret
  exact ⟨rfl, HF7.out⟩

end Go.Proofs.Ytgjikoebneiamaa
