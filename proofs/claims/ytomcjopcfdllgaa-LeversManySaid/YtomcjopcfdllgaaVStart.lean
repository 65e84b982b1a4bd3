/-
  Levers, walks: a machine is put to work.
-/
import Derived.Test.YtomcjopcfdllgaaVPairs
import Derived.Test.YtomcjopcfdllgaaVWork
import Derived.Test.YtomcjopcfdllgaaVFactsK

namespace Go.Proofs.Ytomcjopcfdllgaa
open Go.RowKit

theorem long_succ {ls : List Lev} {k : Nat} (h : k < ls.length) : longP (ls.take (k + 1)) = longP (ls.take k) * (lnth ls k).long := by
  rw [List.take_succ_eq_append_getElem h, lnth_lt h]
  unfold longP
  rw [List.foldl_append]
  rfl
theorem long_take {M : Mach} (hV : ValidM M) (k : Nat) : 0 ≤ longP (M.levers.take k) ∧ longP (M.levers.take k) ≤ 1000000000 := by
  have h : ValidM { M with levers := M.levers.take k } := ⟨Nat.le_trans (List.length_take_le' k M.levers) hV.nl, fun l hl => hV.lev l (List.mem_of_mem_take hl), hV.water, hV.leak, hV.nb, hV.bal, hV.wrong⟩
  exact long_ok h
/-- The spans after k levers. -/
def spTo (ls : List Lev) (k i : Nat) : Int × Int := if i < k then shortOf ls i else (1, 1)
theorem spTo_all {ls : List Lev} (i : Nat) : spTo ls ls.length i = shortOf ls i := by
  unfold spTo
  split
  · rfl
  · rename_i h; simp [shortOf, h]
theorem spTo_new {ls : List Lev} {k : Nat} (h : k < ls.length) : spTo ls (k + 1) k = ((lnth ls k).lo, (lnth ls k).hi) := by
  unfold spTo
  rw [if_pos (by omega), shortOf, List.getElem?_eq_getElem h, lnth_lt h]
theorem spTo_old {ls : List Lev} {k i : Nat} (h : i ≠ k) : spTo ls (k + 1) i = spTo ls k i := by
  unfold spTo
  by_cases e : i < k
  · rw [if_pos e, if_pos (by omega)]
  · rw [if_neg e, if_neg (by omega)]
/-- What is in the first spans after k rounds. -/
def oneTo (k i : Nat) : Int × Int := if i < k then (1, 1) else (0, 0)
set_option maxRecDepth 100000 in
set_option maxHeartbeats 8000000 in
theorem start_any (v : Value) (M : Mach) (lev : Nat) (w : World) (hV : ValidM M) (hl : lev < 3) (hx : MachAt w.heap.size w v M) :
    Calls Try.prog 77 #[v, .int .i64 (lev : Nat)] w fun e w' => ∃ pb, e = .returned (.pointer (some ⟨pb, 0, none⟩)) ∧ WorkAt w'.heap.size w' pb M lev ∧ Below w.heap.size w w' := by
  obtain ⟨lv, bv, rfl, hLV, hBV, hW⟩ := hx
  obtain ⟨a, cap, b, off, rfl, hlen, hcap, hA, hC, hI⟩ := hLV
  obtain ⟨ba, bcap, bb, boff, hbv, _⟩ := id hBV
  have HBV := Lib.hid hBV
  have HA := Lib.hid hA
  have HC := Lib.hid hC
  have HI := Lib.hid hI
  have hn3 := hV.nl
  subst hbv
  clear hA hC hI hBV
  go_enter Try.func77, Try.ntmps77
  go_wp2_with fail
  obtain ⟨w1, hw1⟩ : ∃ w1, w1 = (w.alloc (.cells #[.slice a M.levers.length cap, .int .i64 M.water, .int .i64 M.lkLo, .int .i64 M.lkHi, .slice ba M.bals.length bcap, .int .i64 M.wrong] 27)).alloc (.cells (wArr (.slice a M.levers.length cap) M (.slice ba M.bals.length bcap) (oneTo 0 0) (oneTo 0 1) (oneTo 0 2) 1 (lev : Nat) 0 0 (.slice none 0 0) (.slice none 0 0) 0 (.slice none 0 0)) 99) := ⟨_, rfl⟩
  have hpb : w1.heap[w.heap.size + 1]? = some (.cells (wArr (.slice a M.levers.length cap) M (.slice ba M.bals.length bcap) (oneTo 0 0) (oneTo 0 1) (oneTo 0 2) 1 (lev : Nat) 0 0 (.slice none 0 0) (.slice none 0 0) 0 (.slice none 0 0)) 99) := by rw [hw1]; exact new2 w _ _
  have hb1 : Below w.heap.size w w1 := by rw [hw1]; go_grown
  show Code.wp _ _ _ _ _
  generalize hgw : ((w.alloc _).alloc _ : World) = wg
  obtain rfl : wg = w1 := by rw [hw1, ← hgw]; rfl
  clear hgw hw1
  go_loopw [14] (fun oi wr => ∃ k : Nat, k ≤ 3 ∧ oi = .int .i64 k ∧ Hid (wr.heap[w.heap.size + 1]? = some (.cells (wArr (.slice a M.levers.length cap) M (.slice ba M.bals.length bcap) (oneTo k 0) (oneTo k 1) (oneTo k 2) 1 (lev : Nat) 0 0 (.slice none 0 0) (.slice none 0 0) 0 (.slice none 0 0)) 99)) ∧ Hid (Below w.heap.size w wr)) (fun oi _ => 3 - (intOf oi).toNat)
  case atStart => exact ⟨0, by omega, rfl, hpb, hb1⟩
  case round =>
    clear hpb hb1
    obtain ⟨k, hk, rfl, hpb, hb1⟩ := hrel
    obtain ⟨⟨c0, c1, c2, c3, c4, c5⟩, ⟨c6, c7, c8, c9, c10, c11⟩, ⟨c12, c13, c14, c15⟩, c16, c17, c18, c19⟩ := cells20 hpb.out
    have cf := froz hpb.out
    have hk4 : k = 0 ∨ k = 1 ∨ k = 2 ∨ k = 3 := by omega
    rcases hk4 with rfl | rfl | rfl | rfl
    · go_wp2_with fail
      refine ⟨⟨1, by omega, by go_num, ?_, Lib.hid (below_setCell (below_setCell hb1.out (by omega)) (by omega))⟩, by simp [intOf]⟩
      show _ = _
      rw [heap_setCell_same (heap_setCell_same hpb.out)]; simp [oneTo]
    · go_wp2_with fail
      refine ⟨⟨2, by omega, by go_num, ?_, Lib.hid (below_setCell (below_setCell hb1.out (by omega)) (by omega))⟩, by simp [intOf]⟩
      show _ = _
      rw [heap_setCell_same (heap_setCell_same hpb.out)]; simp [oneTo]
    · go_wp2_with fail
      refine ⟨⟨3, by omega, by go_num, ?_, Lib.hid (below_setCell (below_setCell hb1.out (by omega)) (by omega))⟩, by simp [intOf]⟩
      show _ = _
      rw [heap_setCell_same (heap_setCell_same hpb.out)]; simp [oneTo]
    · obtain ⟨wl, hwl⟩ : ∃ wl, wl = wr := ⟨_, rfl⟩
      rw [← hwl] at hpb hb1 c0 c1 c2 c3 c4 c5 c6 c7 c8 c9 c10 c11 c12 c13 c14 c15 c16 c17 c18 c19 cf ⊢
      clear hwl
      have HLT := Lib.hid (fun k => long_take hV k)
      have hpb0 : Hid (wl.heap[w.heap.size + 1]? = some (.cells (wArr (.slice a M.levers.length cap) M (.slice ba M.bals.length bcap) (spTo M.levers 0 0) (spTo M.levers 0 1) (spTo M.levers 0 2) (longP (M.levers.take 0)) (lev : Nat) 0 0 (.slice none 0 0) (.slice none 0 0) 0 (.slice none 0 0)) 99)) := hpb
      go_wp2_with fail
      clear hpb c0 c1 c2 c3 c4 c5 c6 c7 c8 c9 c10 c11 c12 c13 c14 c15 c16 c17 c18 c19 cf
      go_loopw [30] (fun oi wr => ∃ k : Nat, k ≤ M.levers.length ∧ oi = .int .i64 k ∧ Hid (wr.heap[w.heap.size + 1]? = some (.cells (wArr (.slice a M.levers.length cap) M (.slice ba M.bals.length bcap) (spTo M.levers k 0) (spTo M.levers k 1) (spTo M.levers k 2) (longP (M.levers.take k)) (lev : Nat) 0 0 (.slice none 0 0) (.slice none 0 0) 0 (.slice none 0 0)) 99)) ∧ Hid (Below w.heap.size w wr)) (fun oi _ => M.levers.length - (intOf oi).toNat)
      case atStart => exact ⟨0, by omega, rfl, hpb0, hb1⟩
      case round =>
        clear hpb0 hb1
        obtain ⟨k, hk, rfl, hpb, hb1⟩ := hrel
        have hszr := hb1.out.size
        have hltp := heap_lt hpb.out
        by_cases hlt : k < M.levers.length
        · have hlt' : ((k : Nat) : Int) < (M.levers.length : Int) := by omega
          obtain ⟨rfl, hbb⟩ := HA.out (by omega)
          obtain ⟨d0, d1, d2⟩ := (HC.out k hlt).below hb1.out hbb
          have hlong := HLT.out (k + 1)
          have hlong0 := HLT.out k
          rw [long_succ hlt] at hlong
          have HLS := Lib.hid (long_succ hlt)
          have HSN := Lib.hid (spTo_new hlt)
          obtain ⟨L, hL⟩ : ∃ L, lnth M.levers k = L := ⟨_, rfl⟩
          rw [hL] at d0 d1 d2 hlong HLS HSN
          obtain ⟨LP, hLP⟩ : ∃ x, longP (M.levers.take k) = x := ⟨_, rfl⟩
          rw [hLP] at hlong hlong0 hpb HLS
          obtain ⟨LQ, hLQ⟩ : ∃ x, LP * L.long = x := ⟨_, rfl⟩
          have wLQ : IntKind.i64.wrap (LP * L.long) = LQ := by rw [hLQ] at hlong ⊢; exact IntWalk.i64_in _ (by omega)
          have wLQ2 : wrap64 (LP * L.long) = LQ := by rw [hLQ] at hlong ⊢; exact wrap_in (by omega)
          rw [hLQ] at HLS
          have hg : ∀ o, Below wr.heap.size wr (wr.alloc o) := fun _ => by go_grown
          obtain ⟨⟨c0, c1, c2, c3, c4, c5⟩, ⟨c6, c7, c8, c9, c10, c11⟩, ⟨c12, c13, c14, c15⟩, c16, c17, c18, c19⟩ := cells20 ((Below.heap_alloc wr (.cells #[.int .i64 L.long, .int .i64 L.lo, .int .i64 L.hi] 63) _ hltp).trans hpb.out)
          have cf := froz ((Below.heap_alloc wr (.cells #[.int .i64 L.long, .int .i64 L.lo, .int .i64 L.hi] 63) _ hltp).trans hpb.out)
          obtain ⟨l0, l1, l2⟩ := cells3 (heap_new wr (.cells #[.int .i64 L.long, .int .i64 L.lo, .int .i64 L.hi] 63))
          have hne : ¬ w.heap.size + 1 = wr.heap.size := by omega
          have hne2 : ¬ wr.heap.size = w.heap.size + 1 := by omega
          clear hL hLP hLQ hlong hlong0 hg
          go_wp2_with fail
          obtain ⟨w5, hw5⟩ : ∃ w5, w5 = wr.alloc (.cells #[.int .i64 L.long, .int .i64 L.lo, .int .i64 L.hi] 63) := ⟨_, rfl⟩
          rw [← hw5] at c0 c1 c2 c3 c4 c5 c6 c7 c8 c9 c10 c11 c12 c13 c14 c15 c16 c17 c18 c19 cf l0 l1 l2 ⊢
          have HB5 := Lib.hid (hw5 ▸ (show Below w.heap.size w (wr.alloc (.cells #[.int .i64 L.long, .int .i64 L.lo, .int .i64 L.hi] 63)) from hb1.out.alloc (by omega) _))
          have HP5 := Lib.hid (show w5.heap[w.heap.size + 1]? = _ from hw5 ▸ (Below.heap_alloc wr (.cells #[.int .i64 L.long, .int .i64 L.lo, .int .i64 L.hi] 63) _ hltp).trans hpb.out)
          obtain ⟨lb, hlb⟩ : ∃ lb, wr.heap.size = lb := ⟨_, rfl⟩
          rw [hlb] at l0 l1 l2 hne hne2 ⊢
          clear hw5 hpb hb1 d0 d1 d2 hlb
          have hk3 : k = 0 ∨ k = 1 ∨ k = 2 := by omega
          rcases hk3 with rfl | rfl | rfl
          · go_region
            go_wp2_with fail
            obtain ⟨w6, hw6⟩ : ∃ w6, w6 = ((w5.setCell ⟨w.heap.size + 1, 6, none⟩ (.int .i64 L.lo)).setCell ⟨w.heap.size + 1, 7, none⟩ (.int .i64 L.hi)).drew := ⟨_, rfl⟩
            have hp6 : w6.heap[w.heap.size + 1]? = some (.cells (wArr (.slice (some ⟨b, off, none⟩) M.levers.length cap) M (.slice ba M.bals.length bcap) ((L.lo, L.hi)) (spTo M.levers 0 1) (spTo M.levers 0 2) LP (lev : Nat) 0 0 (.slice none 0 0) (.slice none 0 0) 0 (.slice none 0 0)) 99) := by
              rw [hw6]
              show ((w5.setCell _ _).setCell _ _).heap[_]? = _
              rw [heap_setCell_same (heap_setCell_same HP5.out)]; rfl
            have hb6 : Below w.heap.size w w6 := by rw [hw6]; exact (below_setCell (below_setCell HB5.out (by omega)) (by omega)).drew
            have m0 : w6.cell? ⟨lb, 0, none⟩ = some (.int .i64 L.long) := by
              rw [hw6]
              exact (World.cell?_of_block (a := ⟨lb, 0, none⟩) ((heap_setCell_other hne).trans (heap_setCell_other hne))).trans l0
            rw [← hw6]
            clear hw6 c0 c1 c2 c3 c4 c5 c6 c7 c8 c9 c10 c11 c12 c13 c14 c15 c16 c17 c18 c19 cf l0 l1 l2
            obtain ⟨⟨c0, c1, c2, c3, c4, c5⟩, ⟨c6, c7, c8, c9, c10, c11⟩, ⟨c12, c13, c14, c15⟩, c16, c17, c18, c19⟩ := cells20 hp6
            have cf := froz hp6
            have HP6 := Lib.hid hp6
            have HB6 := Lib.hid hb6
            clear hp6 hb6
            go_region
            go_wp2_with fail
            refine ⟨⟨_, _, _, ⟨0 + 1, by omega, by go_num, ?_, Lib.hid (below_setCell HB6.out (by omega)).drew⟩, rfl, rfl, rfl⟩, by simp [intOf]; omega⟩
            show (World.setCell w6 ⟨w.heap.size + 1, 12, none⟩ (.int .i64 LQ)).heap[w.heap.size + 1]? = some _
            rw [HLS.out, HSN.out, heap_setCell_same HP6.out, spTo_old (k := 0) (i := 1) (by omega), spTo_old (k := 0) (i := 2) (by omega)]; rfl
          · go_region
            go_wp2_with fail
            obtain ⟨w6, hw6⟩ : ∃ w6, w6 = ((w5.setCell ⟨w.heap.size + 1, 8, none⟩ (.int .i64 L.lo)).setCell ⟨w.heap.size + 1, 9, none⟩ (.int .i64 L.hi)).drew := ⟨_, rfl⟩
            have hp6 : w6.heap[w.heap.size + 1]? = some (.cells (wArr (.slice (some ⟨b, off, none⟩) M.levers.length cap) M (.slice ba M.bals.length bcap) (spTo M.levers 1 0) ((L.lo, L.hi)) (spTo M.levers 1 2) LP (lev : Nat) 0 0 (.slice none 0 0) (.slice none 0 0) 0 (.slice none 0 0)) 99) := by
              rw [hw6]
              show ((w5.setCell _ _).setCell _ _).heap[_]? = _
              rw [heap_setCell_same (heap_setCell_same HP5.out)]; rfl
            have hb6 : Below w.heap.size w w6 := by rw [hw6]; exact (below_setCell (below_setCell HB5.out (by omega)) (by omega)).drew
            have m0 : w6.cell? ⟨lb, 0, none⟩ = some (.int .i64 L.long) := by
              rw [hw6]
              exact (World.cell?_of_block (a := ⟨lb, 0, none⟩) ((heap_setCell_other hne).trans (heap_setCell_other hne))).trans l0
            rw [← hw6]
            clear hw6 c0 c1 c2 c3 c4 c5 c6 c7 c8 c9 c10 c11 c12 c13 c14 c15 c16 c17 c18 c19 cf l0 l1 l2
            obtain ⟨⟨c0, c1, c2, c3, c4, c5⟩, ⟨c6, c7, c8, c9, c10, c11⟩, ⟨c12, c13, c14, c15⟩, c16, c17, c18, c19⟩ := cells20 hp6
            have cf := froz hp6
            have HP6 := Lib.hid hp6
            have HB6 := Lib.hid hb6
            clear hp6 hb6
            go_region
            go_wp2_with fail
            refine ⟨⟨_, _, _, ⟨1 + 1, by omega, by go_num, ?_, Lib.hid (below_setCell HB6.out (by omega)).drew⟩, rfl, rfl, rfl⟩, by simp [intOf]; omega⟩
            show (World.setCell w6 ⟨w.heap.size + 1, 12, none⟩ (.int .i64 LQ)).heap[w.heap.size + 1]? = some _
            rw [HLS.out, HSN.out, heap_setCell_same HP6.out, spTo_old (k := 1) (i := 0) (by omega), spTo_old (k := 1) (i := 2) (by omega)]; rfl
          · go_region
            go_wp2_with fail
            obtain ⟨w6, hw6⟩ : ∃ w6, w6 = ((w5.setCell ⟨w.heap.size + 1, 10, none⟩ (.int .i64 L.lo)).setCell ⟨w.heap.size + 1, 11, none⟩ (.int .i64 L.hi)).drew := ⟨_, rfl⟩
            have hp6 : w6.heap[w.heap.size + 1]? = some (.cells (wArr (.slice (some ⟨b, off, none⟩) M.levers.length cap) M (.slice ba M.bals.length bcap) (spTo M.levers 2 0) (spTo M.levers 2 1) ((L.lo, L.hi)) LP (lev : Nat) 0 0 (.slice none 0 0) (.slice none 0 0) 0 (.slice none 0 0)) 99) := by
              rw [hw6]
              show ((w5.setCell _ _).setCell _ _).heap[_]? = _
              rw [heap_setCell_same (heap_setCell_same HP5.out)]; rfl
            have hb6 : Below w.heap.size w w6 := by rw [hw6]; exact (below_setCell (below_setCell HB5.out (by omega)) (by omega)).drew
            have m0 : w6.cell? ⟨lb, 0, none⟩ = some (.int .i64 L.long) := by
              rw [hw6]
              exact (World.cell?_of_block (a := ⟨lb, 0, none⟩) ((heap_setCell_other hne).trans (heap_setCell_other hne))).trans l0
            rw [← hw6]
            clear hw6 c0 c1 c2 c3 c4 c5 c6 c7 c8 c9 c10 c11 c12 c13 c14 c15 c16 c17 c18 c19 cf l0 l1 l2
            obtain ⟨⟨c0, c1, c2, c3, c4, c5⟩, ⟨c6, c7, c8, c9, c10, c11⟩, ⟨c12, c13, c14, c15⟩, c16, c17, c18, c19⟩ := cells20 hp6
            have cf := froz hp6
            have HP6 := Lib.hid hp6
            have HB6 := Lib.hid hb6
            clear hp6 hb6
            go_region
            go_wp2_with fail
            refine ⟨⟨_, _, _, ⟨2 + 1, by omega, by go_num, ?_, Lib.hid (below_setCell HB6.out (by omega)).drew⟩, rfl, rfl, rfl⟩, by simp [intOf]; omega⟩
            show (World.setCell w6 ⟨w.heap.size + 1, 12, none⟩ (.int .i64 LQ)).heap[w.heap.size + 1]? = some _
            rw [HLS.out, HSN.out, heap_setCell_same HP6.out, spTo_old (k := 2) (i := 0) (by omega), spTo_old (k := 2) (i := 1) (by omega)]; rfl
        · obtain rfl : M.levers.length = k := by omega
          have hsp := fun i => spTo_all (ls := M.levers) i
          rw [hsp, hsp, hsp, List.take_length] at hpb
          clear hsp HLT
          obtain ⟨w7, hw7⟩ : ∃ w7, w7 = wr := ⟨_, rfl⟩
          rw [← hw7] at hpb hb1 hszr hltp ⊢
          clear hw7
          obtain ⟨o1, ho1⟩ : ∃ o, (lev + 1) % 3 = o := ⟨_, rfl⟩
          obtain ⟨o2, ho2⟩ : ∃ o, (lev + 2) % 3 = o := ⟨_, rfl⟩
          have e1 : ((lev : Int) + 1).tmod 3 = (o1 : Int) := by rw [← ho1, Int.tmod_eq_emod_of_nonneg (by omega)]; omega
          have e2 : ((lev : Int) + 1 + 1).tmod 3 = (o2 : Int) := by rw [← ho2, Int.tmod_eq_emod_of_nonneg (by omega)]; omega
          have hlev : (0 : Int) ≤ (lev : Int) ∧ (lev : Int) < 3 := by omega
          have HO1 := Lib.hid ho1
          have HO2 := Lib.hid ho2
          go_wp2_with fail
          go_loopw [52] (fun oi wr => ∃ j : Nat, j ≤ 2 ∧ oi = .int .i64 j ∧ Hid (wr.heap[w.heap.size + 1]? = some (.cells (wArr (.slice a M.levers.length cap) M (.slice ba M.bals.length bcap) (shortOf M.levers 0) (shortOf M.levers 1) (shortOf M.levers 2) (longP M.levers) (lev : Nat) (if 0 < j then (o1 : Int) else 0) (if 1 < j then (o2 : Int) else 0) (.slice none 0 0) (.slice none 0 0) 0 (.slice none 0 0)) 99)) ∧ Hid (Below w.heap.size w wr)) (fun oi _ => 2 - (intOf oi).toNat)
          case atStart => exact ⟨0, by omega, rfl, by simpa using hpb, hb1⟩
          case round =>
            clear hpb hb1 hszr hltp
            obtain ⟨j, hj, rfl, hpb, hb1⟩ := hrel
            obtain ⟨⟨c0, c1, c2, c3, c4, c5⟩, ⟨c6, c7, c8, c9, c10, c11⟩, ⟨c12, c13, c14, c15⟩, c16, c17, c18, c19⟩ := cells20 hpb.out
            have cf := froz hpb.out
            have hj3 : j = 0 ∨ j = 1 ∨ j = 2 := by omega
            rcases hj3 with rfl | rfl | rfl
            · go_wp2_with fail
              refine ⟨⟨1, by omega, by go_num, ?_, Lib.hid (below_setCell hb1.out (by omega))⟩, by simp [intOf]⟩
              show _ = _
              rw [heap_setCell_same hpb.out]; simp
            · go_wp2_with fail
              refine ⟨⟨2, by omega, by go_num, ?_, Lib.hid (below_setCell hb1.out (by omega))⟩, by simp [intOf]⟩
              show _ = _
              rw [heap_setCell_same hpb.out]; simp
            · obtain ⟨w8, hw8⟩ : ∃ w8, w8 = wr := ⟨_, rfl⟩
              rw [← hw8] at hpb hb1 c0 c1 c2 c3 c4 c5 c6 c7 c8 c9 c10 c11 c12 c13 c14 c15 c16 c17 c18 c19 cf ⊢
              clear hw8
              have hpb8 : w8.heap[w.heap.size + 1]? = some (.cells (wArr (.slice a M.levers.length cap) M (.slice ba M.bals.length bcap) (shortOf M.levers 0) (shortOf M.levers 1) (shortOf M.levers 2) (longP M.levers) (lev : Nat) (o1 : Nat) (o2 : Nat) (.slice none 0 0) (.slice none 0 0) 0 (.slice none 0 0)) 99) := by simpa using hpb.out
              have HPB8 := Lib.hid hpb8
              have HPB := Lib.hid (show w.heap.size + 1 < w8.heap.size from heap_lt hpb8)
              have HS1 := Lib.hid (short_ok hV o1)
              have HS2 := Lib.hid (short_ok hV o2)
              have hsz8 := hb1.out.size
              clear hpb c0 c1 c2 c3 c4 c5 c6 c7 c8 c9 c10 c11 c12 c13 c14 c15 c16 c17 c18 c19 cf
              obtain ⟨⟨c0, c1, c2, c3, c4, c5⟩, ⟨c6, c7, c8, c9, c10, c11⟩, ⟨c12, c13, k14, k15⟩, c16, c17, c18, c19⟩ := cells20 hpb8
              have hall : ∀ i, i < 3 → w8.cell? ⟨w.heap.size + 1, 6 + i * 2, none⟩ = some (.int .i64 (shortOf M.levers i).1) ∧ w8.cell? ⟨w.heap.size + 1, 6 + i * 2 + 1, none⟩ = some (.int .i64 (shortOf M.levers i).2) := fun i hi => by
                have hi3 : i = 0 ∨ i = 1 ∨ i = 2 := by omega
                rcases hi3 with rfl | rfl | rfl
                · exact ⟨c6, c7⟩
                · exact ⟨c8, c9⟩
                · exact ⟨c10, c11⟩
              have hO1 : o1 < 3 := by rw [← HO1.out]; exact Nat.mod_lt _ (by decide)
              have hO2 : o2 < 3 := by rw [← HO2.out]; exact Nat.mod_lt _ (by decide)
              obtain ⟨ka, ka1⟩ := hall o1 hO1
              obtain ⟨kd, kd1⟩ := hall o2 hO2
              have g1 : (0 : Int) ≤ (o1 : Int) ∧ (o1 : Int) < 3 := by omega
              have g2 : (0 : Int) ≤ (o2 : Int) ∧ (o2 : Int) < 3 := by omega
              clear hall c0 c1 c2 c3 c4 c5 c6 c7 c8 c9 c10 c11 c12 c13 c16 c17 c18 c19 hpb8
              go_upto_region 18 with fail
              --R18--
              refine wp_region_facts _ 24 [66, 67, 68, 69, 70, 71, 72, 73, 74, 75, 76, 77, 78, 79, 80, 81, 82, 83, 84, 85, 86, 87, 88, 89] [isV (.pointer (some ⟨w.heap.size + 1, 0, none⟩)), isV (.pointer (some ⟨w.heap.size + 1, 0, none⟩)), isV (.pointer (some ⟨w.heap.size + 1, 0, none⟩)), isV (.pointer (some ⟨w.heap.size + 1, 0, none⟩)), isV (.pointer (some ⟨w.heap.size + 1, 14, none⟩)), isV (.pointer (some ⟨w.heap.size + 1, 14, none⟩)), isV (.int .i64 (o1 : Nat)), isV (.pointer (some ⟨w.heap.size + 1, 0, none⟩)), isV (.pointer (some ⟨w.heap.size + 1, 6, none⟩)), isV (.pointer (some ⟨w.heap.size + 1, 6 + o1 * 2, none⟩)), isV (.agg #[.int .i64 (shortOf M.levers o1).1, .int .i64 (shortOf M.levers o1).2]), isV (.pointer (some ⟨w.heap.size + 1, 0, none⟩)), isV (.pointer (some ⟨w.heap.size + 1, 0, none⟩)), isV (.pointer (some ⟨w.heap.size + 1, 0, none⟩)), isV (.pointer (some ⟨w.heap.size + 1, 14, none⟩)), isV (.pointer (some ⟨w.heap.size + 1, 15, none⟩)), isV (.int .i64 (o2 : Nat)), isV (.pointer (some ⟨w.heap.size + 1, 0, none⟩)), isV (.pointer (some ⟨w.heap.size + 1, 6, none⟩)), isV (.pointer (some ⟨w.heap.size + 1, 6 + o2 * 2, none⟩)), isV (.agg #[.int .i64 (shortOf M.levers o2).1, .int .i64 (shortOf M.levers o2).2]), ⟨fun v W => PairsNew w8.heap.size (v) (shortOf M.levers o1) (shortOf M.levers o2) W, fun _ _ _ h hb => h.below hb⟩, isV (.pointer (some ⟨w.heap.size + 1, 0, none⟩)), isV (.pointer (some ⟨w.heap.size + 1, 16, none⟩))] (by kernel_rfl) (by kernel_rfl) (by kernel_rfl) rfl (by decide) (by decide) (by simp) ?stepA ?restA
              case stepA =>
                intro i ac W d hi hd hb hoff hdep
                have x14 := (hb.cell (p := ⟨w.heap.size + 1, 14, none⟩) HPB.out).trans k14
                have x15 := (hb.cell (p := ⟨w.heap.size + 1, 15, none⟩) HPB.out).trans k15
                have xa := (hb.cell (p := ⟨w.heap.size + 1, 6 + o1 * 2, none⟩) HPB.out).trans ka
                have xa1 := (hb.cell (p := ⟨w.heap.size + 1, 6 + o1 * 2 + 1, none⟩) HPB.out).trans ka1
                have xd := (hb.cell (p := ⟨w.heap.size + 1, 6 + o2 * 2, none⟩) HPB.out).trans kd
                have xd1 := (hb.cell (p := ⟨w.heap.size + 1, 6 + o2 * 2 + 1, none⟩) HPB.out).trans kd1
                have hi2 : i = 0 ∨ i = 1 ∨ i = 2 ∨ i = 3 ∨ i = 4 ∨ i = 5 ∨ i = 6 ∨ i = 7 ∨ i = 8 ∨ i = 9 ∨ i = 10 ∨ i = 11 ∨ i = 12 ∨ i = 13 ∨ i = 14 ∨ i = 15 ∨ i = 16 ∨ i = 17 ∨ i = 18 ∨ i = 19 ∨ i = 20 ∨ i = 21 ∨ i = 22 ∨ i = 23 := by omega
                rcases hi2 with rfl | rfl | rfl | rfl | rfl | rfl | rfl | rfl | rfl | rfl | rfl | rfl | rfl | rfl | rfl | rfl | rfl | rfl | rfl | rfl | rfl | rfl | rfl | rfl
                · obtain rfl : 66 = d := by simpa using hd
                  have q5 : ac.tmps[5]?.getD undef = .pointer (some ⟨w.heap.size + 1, 0, none⟩) := (eval_tmp _ _).symm.trans <| (hoff 5 (by decide)).trans rfl
                  refine fact_value rfl rfl rfl (v := .pointer (some ⟨w.heap.size + 1, 0, none⟩)) (W' := W) ?_ (Below.refl _ _) rfl
                  simp only [execOp]
                  go_simp
                · obtain rfl : 67 = d := by simpa using hd
                  have q5 : ac.tmps[5]?.getD undef = .pointer (some ⟨w.heap.size + 1, 0, none⟩) := (eval_tmp _ _).symm.trans <| (hoff 5 (by decide)).trans rfl
                  refine fact_value rfl rfl rfl (v := .pointer (some ⟨w.heap.size + 1, 0, none⟩)) (W' := W) ?_ (Below.refl _ _) rfl
                  simp only [execOp]
                  go_simp
                · obtain rfl : 68 = d := by simpa using hd
                  have q5 : ac.tmps[5]?.getD undef = .pointer (some ⟨w.heap.size + 1, 0, none⟩) := (eval_tmp _ _).symm.trans <| (hoff 5 (by decide)).trans rfl
                  refine fact_value rfl rfl rfl (v := .pointer (some ⟨w.heap.size + 1, 0, none⟩)) (W' := W) ?_ (Below.refl _ _) rfl
                  simp only [execOp]
                  go_simp
                · obtain rfl : 69 = d := by simpa using hd
                  have q68 : ac.tmps[68]?.getD undef = .pointer (some ⟨w.heap.size + 1, 0, none⟩) := (eval_tmp _ _).symm.trans (hdep 2 68 rfl rfl)
                  refine fact_value rfl rfl rfl (v := .pointer (some ⟨w.heap.size + 1, 0, none⟩)) (W' := W) ?_ (Below.refl _ _) rfl
                  simp only [execOp]
                  go_simp
                · obtain rfl : 70 = d := by simpa using hd
                  have q69 : ac.tmps[69]?.getD undef = .pointer (some ⟨w.heap.size + 1, 0, none⟩) := (eval_tmp _ _).symm.trans (hdep 3 69 rfl rfl)
                  refine fact_value rfl rfl rfl (v := .pointer (some ⟨w.heap.size + 1, 14, none⟩)) (W' := W) ?_ (Below.refl _ _) rfl
                  simp only [execOp]
                  go_simp
                · obtain rfl : 71 = d := by simpa using hd
                  have q70 : ac.tmps[70]?.getD undef = .pointer (some ⟨w.heap.size + 1, 14, none⟩) := (eval_tmp _ _).symm.trans (hdep 4 70 rfl rfl)
                  refine fact_value rfl rfl rfl (v := .pointer (some ⟨w.heap.size + 1, 14, none⟩)) (W' := W) ?_ (Below.refl _ _) rfl
                  simp only [execOp]
                  go_simp
                · obtain rfl : 72 = d := by simpa using hd
                  have q71 : ac.tmps[71]?.getD undef = .pointer (some ⟨w.heap.size + 1, 14, none⟩) := (eval_tmp _ _).symm.trans (hdep 5 71 rfl rfl)
                  refine fact_value rfl rfl rfl (v := .int .i64 (o1 : Nat)) (W' := W) ?_ (Below.refl _ _) rfl
                  simp only [execOp]
                  go_simp
                · obtain rfl : 73 = d := by simpa using hd
                  have q67 : ac.tmps[67]?.getD undef = .pointer (some ⟨w.heap.size + 1, 0, none⟩) := (eval_tmp _ _).symm.trans (hdep 1 67 rfl rfl)
                  refine fact_value rfl rfl rfl (v := .pointer (some ⟨w.heap.size + 1, 0, none⟩)) (W' := W) ?_ (Below.refl _ _) rfl
                  simp only [execOp]
                  go_simp
                · obtain rfl : 74 = d := by simpa using hd
                  have q73 : ac.tmps[73]?.getD undef = .pointer (some ⟨w.heap.size + 1, 0, none⟩) := (eval_tmp _ _).symm.trans (hdep 7 73 rfl rfl)
                  refine fact_value rfl rfl rfl (v := .pointer (some ⟨w.heap.size + 1, 6, none⟩)) (W' := W) ?_ (Below.refl _ _) rfl
                  simp only [execOp]
                  go_simp
                · obtain rfl : 75 = d := by simpa using hd
                  have q74 : ac.tmps[74]?.getD undef = .pointer (some ⟨w.heap.size + 1, 6, none⟩) := (eval_tmp _ _).symm.trans (hdep 8 74 rfl rfl)
                  have q72 : ac.tmps[72]?.getD undef = .int .i64 (o1 : Nat) := (eval_tmp _ _).symm.trans (hdep 6 72 rfl rfl)
                  refine fact_value rfl rfl rfl (v := .pointer (some ⟨w.heap.size + 1, 6 + o1 * 2, none⟩)) (W' := W) ?_ (Below.refl _ _) rfl
                  simp only [execOp]
                  go_simp
                · obtain rfl : 76 = d := by simpa using hd
                  have q75 : ac.tmps[75]?.getD undef = .pointer (some ⟨w.heap.size + 1, 6 + o1 * 2, none⟩) := (eval_tmp _ _).symm.trans (hdep 9 75 rfl rfl)
                  refine fact_value rfl rfl rfl (v := .agg #[.int .i64 (shortOf M.levers o1).1, .int .i64 (shortOf M.levers o1).2]) (W' := W) ?_ (Below.refl _ _) rfl
                  simp only [execOp]
                  go_simp
                · obtain rfl : 77 = d := by simpa using hd
                  have q5 : ac.tmps[5]?.getD undef = .pointer (some ⟨w.heap.size + 1, 0, none⟩) := (eval_tmp _ _).symm.trans <| (hoff 5 (by decide)).trans rfl
                  refine fact_value rfl rfl rfl (v := .pointer (some ⟨w.heap.size + 1, 0, none⟩)) (W' := W) ?_ (Below.refl _ _) rfl
                  simp only [execOp]
                  go_simp
                · obtain rfl : 78 = d := by simpa using hd
                  have q5 : ac.tmps[5]?.getD undef = .pointer (some ⟨w.heap.size + 1, 0, none⟩) := (eval_tmp _ _).symm.trans <| (hoff 5 (by decide)).trans rfl
                  refine fact_value rfl rfl rfl (v := .pointer (some ⟨w.heap.size + 1, 0, none⟩)) (W' := W) ?_ (Below.refl _ _) rfl
                  simp only [execOp]
                  go_simp
                · obtain rfl : 79 = d := by simpa using hd
                  have q78 : ac.tmps[78]?.getD undef = .pointer (some ⟨w.heap.size + 1, 0, none⟩) := (eval_tmp _ _).symm.trans (hdep 12 78 rfl rfl)
                  refine fact_value rfl rfl rfl (v := .pointer (some ⟨w.heap.size + 1, 0, none⟩)) (W' := W) ?_ (Below.refl _ _) rfl
                  simp only [execOp]
                  go_simp
                · obtain rfl : 80 = d := by simpa using hd
                  have q79 : ac.tmps[79]?.getD undef = .pointer (some ⟨w.heap.size + 1, 0, none⟩) := (eval_tmp _ _).symm.trans (hdep 13 79 rfl rfl)
                  refine fact_value rfl rfl rfl (v := .pointer (some ⟨w.heap.size + 1, 14, none⟩)) (W' := W) ?_ (Below.refl _ _) rfl
                  simp only [execOp]
                  go_simp
                · obtain rfl : 81 = d := by simpa using hd
                  have q80 : ac.tmps[80]?.getD undef = .pointer (some ⟨w.heap.size + 1, 14, none⟩) := (eval_tmp _ _).symm.trans (hdep 14 80 rfl rfl)
                  refine fact_value rfl rfl rfl (v := .pointer (some ⟨w.heap.size + 1, 15, none⟩)) (W' := W) ?_ (Below.refl _ _) rfl
                  simp only [execOp]
                  go_simp
                · obtain rfl : 82 = d := by simpa using hd
                  have q81 : ac.tmps[81]?.getD undef = .pointer (some ⟨w.heap.size + 1, 15, none⟩) := (eval_tmp _ _).symm.trans (hdep 15 81 rfl rfl)
                  refine fact_value rfl rfl rfl (v := .int .i64 (o2 : Nat)) (W' := W) ?_ (Below.refl _ _) rfl
                  simp only [execOp]
                  go_simp
                · obtain rfl : 83 = d := by simpa using hd
                  have q77 : ac.tmps[77]?.getD undef = .pointer (some ⟨w.heap.size + 1, 0, none⟩) := (eval_tmp _ _).symm.trans (hdep 11 77 rfl rfl)
                  refine fact_value rfl rfl rfl (v := .pointer (some ⟨w.heap.size + 1, 0, none⟩)) (W' := W) ?_ (Below.refl _ _) rfl
                  simp only [execOp]
                  go_simp
                · obtain rfl : 84 = d := by simpa using hd
                  have q83 : ac.tmps[83]?.getD undef = .pointer (some ⟨w.heap.size + 1, 0, none⟩) := (eval_tmp _ _).symm.trans (hdep 17 83 rfl rfl)
                  refine fact_value rfl rfl rfl (v := .pointer (some ⟨w.heap.size + 1, 6, none⟩)) (W' := W) ?_ (Below.refl _ _) rfl
                  simp only [execOp]
                  go_simp
                · obtain rfl : 85 = d := by simpa using hd
                  have q84 : ac.tmps[84]?.getD undef = .pointer (some ⟨w.heap.size + 1, 6, none⟩) := (eval_tmp _ _).symm.trans (hdep 18 84 rfl rfl)
                  have q82 : ac.tmps[82]?.getD undef = .int .i64 (o2 : Nat) := (eval_tmp _ _).symm.trans (hdep 16 82 rfl rfl)
                  refine fact_value rfl rfl rfl (v := .pointer (some ⟨w.heap.size + 1, 6 + o2 * 2, none⟩)) (W' := W) ?_ (Below.refl _ _) rfl
                  simp only [execOp]
                  go_simp
                · obtain rfl : 86 = d := by simpa using hd
                  have q85 : ac.tmps[85]?.getD undef = .pointer (some ⟨w.heap.size + 1, 6 + o2 * 2, none⟩) := (eval_tmp _ _).symm.trans (hdep 19 85 rfl rfl)
                  refine fact_value rfl rfl rfl (v := .agg #[.int .i64 (shortOf M.levers o2).1, .int .i64 (shortOf M.levers o2).2]) (W' := W) ?_ (Below.refl _ _) rfl
                  simp only [execOp]
                  go_simp
                · obtain rfl : 87 = d := by simpa using hd
                  have q76 : ac.tmps[76]?.getD undef = .agg #[.int .i64 (shortOf M.levers o1).1, .int .i64 (shortOf M.levers o1).2] := (eval_tmp _ _).symm.trans (hdep 10 76 rfl rfl)
                  have q86 : ac.tmps[86]?.getD undef = .agg #[.int .i64 (shortOf M.levers o2).1, .int .i64 (shortOf M.levers o2).2] := (eval_tmp _ _).symm.trans (hdep 20 86 rfl rfl)
                  refine fact_call rfl rfl rfl (f := 84) (args := #[.agg #[.int .i64 (shortOf M.levers o1).1, .int .i64 (shortOf M.levers o1).2], .agg #[.int .i64 (shortOf M.levers o2).1, .int .i64 (shortOf M.levers o2).2]]) ?_ ?_
                  · simp only [execOp]
                    go_simp
                  · refine (newPairs_any (shortOf M.levers o1) (shortOf M.levers o2) W HS1.out HS2.out).mono ?_
                    rintro e W' ⟨q, rfl, hls, hbk⟩
                    exact ⟨q, rfl, hbk, hls.less hb.size⟩
                · obtain rfl : 88 = d := by simpa using hd
                  have q66 : ac.tmps[66]?.getD undef = .pointer (some ⟨w.heap.size + 1, 0, none⟩) := (eval_tmp _ _).symm.trans (hdep 0 66 rfl rfl)
                  refine fact_value rfl rfl rfl (v := .pointer (some ⟨w.heap.size + 1, 0, none⟩)) (W' := W) ?_ (Below.refl _ _) rfl
                  simp only [execOp]
                  go_simp
                · obtain rfl : 89 = d := by simpa using hd
                  have q88 : ac.tmps[88]?.getD undef = .pointer (some ⟨w.heap.size + 1, 0, none⟩) := (eval_tmp _ _).symm.trans (hdep 22 88 rfl rfl)
                  refine fact_value rfl rfl rfl (v := .pointer (some ⟨w.heap.size + 1, 16, none⟩)) (W' := W) ?_ (Below.refl _ _) rfl
                  simp only [execOp]
                  go_simp
              case restA =>
                intro vs W4 hvl hbk hval
                obtain ⟨l0, l1, l2, l3, l4, l5, l6, l7, l8, l9, l10, l11, l12, l13, l14, l15, l16, l17, l18, l19, l20, l21, l22, l23, rfl⟩ : ∃ l0 l1 l2 l3 l4 l5 l6 l7 l8 l9 l10 l11 l12 l13 l14 l15 l16 l17 l18 l19 l20 l21 l22 l23, vs = [l0, l1, l2, l3, l4, l5, l6, l7, l8, l9, l10, l11, l12, l13, l14, l15, l16, l17, l18, l19, l20, l21, l22, l23] := by
                  match vs, hvl with
                  | [l0, l1, l2, l3, l4, l5, l6, l7, l8, l9, l10, l11, l12, l13, l14, l15, l16, l17, l18, l19, l20, l21, l22, l23], _ => exact ⟨l0, l1, l2, l3, l4, l5, l6, l7, l8, l9, l10, l11, l12, l13, l14, l15, l16, l17, l18, l19, l20, l21, l22, l23, rfl⟩
                obtain rfl : l0 = .pointer (some ⟨w.heap.size + 1, 0, none⟩) := by obtain ⟨u, e, h⟩ := hval 0 (by omega); have e2 : some l0 = some u := e; injection e2 with e2; subst e2; exact h
                obtain rfl : l1 = .pointer (some ⟨w.heap.size + 1, 0, none⟩) := by obtain ⟨u, e, h⟩ := hval 1 (by omega); have e2 : some l1 = some u := e; injection e2 with e2; subst e2; exact h
                obtain rfl : l2 = .pointer (some ⟨w.heap.size + 1, 0, none⟩) := by obtain ⟨u, e, h⟩ := hval 2 (by omega); have e2 : some l2 = some u := e; injection e2 with e2; subst e2; exact h
                obtain rfl : l3 = .pointer (some ⟨w.heap.size + 1, 0, none⟩) := by obtain ⟨u, e, h⟩ := hval 3 (by omega); have e2 : some l3 = some u := e; injection e2 with e2; subst e2; exact h
                obtain rfl : l4 = .pointer (some ⟨w.heap.size + 1, 14, none⟩) := by obtain ⟨u, e, h⟩ := hval 4 (by omega); have e2 : some l4 = some u := e; injection e2 with e2; subst e2; exact h
                obtain rfl : l5 = .pointer (some ⟨w.heap.size + 1, 14, none⟩) := by obtain ⟨u, e, h⟩ := hval 5 (by omega); have e2 : some l5 = some u := e; injection e2 with e2; subst e2; exact h
                obtain rfl : l6 = .int .i64 (o1 : Nat) := by obtain ⟨u, e, h⟩ := hval 6 (by omega); have e2 : some l6 = some u := e; injection e2 with e2; subst e2; exact h
                obtain rfl : l7 = .pointer (some ⟨w.heap.size + 1, 0, none⟩) := by obtain ⟨u, e, h⟩ := hval 7 (by omega); have e2 : some l7 = some u := e; injection e2 with e2; subst e2; exact h
                obtain rfl : l8 = .pointer (some ⟨w.heap.size + 1, 6, none⟩) := by obtain ⟨u, e, h⟩ := hval 8 (by omega); have e2 : some l8 = some u := e; injection e2 with e2; subst e2; exact h
                obtain rfl : l9 = .pointer (some ⟨w.heap.size + 1, 6 + o1 * 2, none⟩) := by obtain ⟨u, e, h⟩ := hval 9 (by omega); have e2 : some l9 = some u := e; injection e2 with e2; subst e2; exact h
                obtain rfl : l10 = .agg #[.int .i64 (shortOf M.levers o1).1, .int .i64 (shortOf M.levers o1).2] := by obtain ⟨u, e, h⟩ := hval 10 (by omega); have e2 : some l10 = some u := e; injection e2 with e2; subst e2; exact h
                obtain rfl : l11 = .pointer (some ⟨w.heap.size + 1, 0, none⟩) := by obtain ⟨u, e, h⟩ := hval 11 (by omega); have e2 : some l11 = some u := e; injection e2 with e2; subst e2; exact h
                obtain rfl : l12 = .pointer (some ⟨w.heap.size + 1, 0, none⟩) := by obtain ⟨u, e, h⟩ := hval 12 (by omega); have e2 : some l12 = some u := e; injection e2 with e2; subst e2; exact h
                obtain rfl : l13 = .pointer (some ⟨w.heap.size + 1, 0, none⟩) := by obtain ⟨u, e, h⟩ := hval 13 (by omega); have e2 : some l13 = some u := e; injection e2 with e2; subst e2; exact h
                obtain rfl : l14 = .pointer (some ⟨w.heap.size + 1, 14, none⟩) := by obtain ⟨u, e, h⟩ := hval 14 (by omega); have e2 : some l14 = some u := e; injection e2 with e2; subst e2; exact h
                obtain rfl : l15 = .pointer (some ⟨w.heap.size + 1, 15, none⟩) := by obtain ⟨u, e, h⟩ := hval 15 (by omega); have e2 : some l15 = some u := e; injection e2 with e2; subst e2; exact h
                obtain rfl : l16 = .int .i64 (o2 : Nat) := by obtain ⟨u, e, h⟩ := hval 16 (by omega); have e2 : some l16 = some u := e; injection e2 with e2; subst e2; exact h
                obtain rfl : l17 = .pointer (some ⟨w.heap.size + 1, 0, none⟩) := by obtain ⟨u, e, h⟩ := hval 17 (by omega); have e2 : some l17 = some u := e; injection e2 with e2; subst e2; exact h
                obtain rfl : l18 = .pointer (some ⟨w.heap.size + 1, 6, none⟩) := by obtain ⟨u, e, h⟩ := hval 18 (by omega); have e2 : some l18 = some u := e; injection e2 with e2; subst e2; exact h
                obtain rfl : l19 = .pointer (some ⟨w.heap.size + 1, 6 + o2 * 2, none⟩) := by obtain ⟨u, e, h⟩ := hval 19 (by omega); have e2 : some l19 = some u := e; injection e2 with e2; subst e2; exact h
                obtain rfl : l20 = .agg #[.int .i64 (shortOf M.levers o2).1, .int .i64 (shortOf M.levers o2).2] := by obtain ⟨u, e, h⟩ := hval 20 (by omega); have e2 : some l20 = some u := e; injection e2 with e2; subst e2; exact h
                have k21 : PairsNew w8.heap.size (l21) (shortOf M.levers o1) (shortOf M.levers o2) W4 := by obtain ⟨u, e, h⟩ := hval 21 (by omega); have e2 : some l21 = some u := e; injection e2 with e2; subst e2; exact h
                obtain rfl : l22 = .pointer (some ⟨w.heap.size + 1, 0, none⟩) := by obtain ⟨u, e, h⟩ := hval 22 (by omega); have e2 : some l22 = some u := e; injection e2 with e2; subst e2; exact h
                obtain rfl : l23 = .pointer (some ⟨w.heap.size + 1, 16, none⟩) := by obtain ⟨u, e, h⟩ := hval 23 (by omega); have e2 : some l23 = some u := e; injection e2 with e2; subst e2; exact h
                clear hval hvl
                simp only [putL, Act.put, List.drop, List.setIfInBounds_toArray, List.set_cons_zero, List.set_cons_succ]
              --E18--
                obtain ⟨av, mv, sv, rfl, hA4, hM4, hS4⟩ := k21 W4 (KeptBut.refl _ _)
                obtain ⟨aA, acap, rfl⟩ : ∃ A cap, av = .slice A (armsOf (shortOf M.levers o1) (shortOf M.levers o2)).length cap := by obtain ⟨A, cap, _, _, h, _⟩ := hA4; exact ⟨A, cap, h⟩
                obtain ⟨mA, mcap, rfl⟩ : ∃ A cap, mv = .slice A (manyI (shortOf M.levers o1) (shortOf M.levers o2)).length cap := by obtain ⟨A, cap, _, _, h, _⟩ := hM4; exact ⟨A, cap, h⟩
                obtain ⟨sA, scap, rfl⟩ : ∃ A cap, sv = .slice A (lessI (shortOf M.levers o1) (shortOf M.levers o2)).length cap := by obtain ⟨A, cap, _, _, h, _⟩ := hS4; exact ⟨A, cap, h⟩
                have hp4 := (hbk.block _ HPB.out).trans HPB8.out
                obtain ⟨_, _, _, c16, c17, c18, c19⟩ := cells20 hp4
                have cf := froz hp4
                have HK21 := Lib.hid k21
                have HP4 := Lib.hid hp4
                have HB4 := Lib.hid (hb1.out.trans (hbk.mono hsz8))
                clear hA4 hM4 hS4 hp4 hbk k21
                obtain ⟨na, hna⟩ : ∃ n, (armsOf (shortOf M.levers o1) (shortOf M.levers o2)).length = n := ⟨_, rfl⟩
                obtain ⟨nm, hnm⟩ : ∃ n, (manyI (shortOf M.levers o1) (shortOf M.levers o2)).length = n := ⟨_, rfl⟩
                obtain ⟨ns, hns⟩ : ∃ n, (lessI (shortOf M.levers o1) (shortOf M.levers o2)).length = n := ⟨_, rfl⟩
                rw [hna, hnm, hns] at HK21 ⊢
                clear hna hnm hns
                obtain ⟨LE, hLE⟩ : ∃ x, (shortOf M.levers o1).1 * (shortOf M.levers o2).1 = x := ⟨_, rfl⟩
                rw [hLE] at HK21 ⊢
                have HLE := Lib.hid hLE
                clear hLE
                go_wp2_with fail
                go_ret
                have hq0 := (heap_setCell_same (o := 16) (v := .slice aA na acap) HP4.out).trans rfl
                have hq1 := (heap_setCell_same (o := 17) (v := .slice mA nm mcap) hq0).trans rfl
                have hq2 := (heap_setCell_same (o := 18) (v := .int .i64 LE) hq1).trans rfl
                have hq3 := (heap_setCell_same (o := 19) (v := .slice sA ns scap) hq2).trans rfl
                have hbf := below_setCell (o := 19) (v := .slice sA ns scap) (below_setCell (o := 18) (v := .int .i64 LE) (below_setCell (o := 17) (v := .slice mA nm mcap) (below_setCell (o := 16) (v := .slice aA na acap) HB4.out (show w.heap.size ≤ w.heap.size + 1 by omega)) (show w.heap.size ≤ w.heap.size + 1 by omega)) (show w.heap.size ≤ w.heap.size + 1 by omega)) (show w.heap.size ≤ w.heap.size + 1 by omega)
                have hkk := (((KeptBut.setCell (own := fun k => k < w8.heap.size) W4 ⟨w.heap.size + 1, 16, none⟩ (.slice aA na acap) HPB.out).trans (KeptBut.setCell _ ⟨w.heap.size + 1, 17, none⟩ (.slice mA nm mcap) HPB.out)).trans (KeptBut.setCell _ ⟨w.heap.size + 1, 18, none⟩ (.int .i64 LE) HPB.out)).trans (KeptBut.setCell _ ⟨w.heap.size + 1, 19, none⟩ (.slice sA ns scap) HPB.out)
                obtain ⟨av, mv, sv, hv, hA5, hM5, hS5⟩ := HK21.out _ hkk
                injection hv with hv
                simp only [List.cons.injEq, Array.mk.injEq] at hv
                obtain ⟨rfl, rfl, _, rfl, _⟩ := hv
                refine ⟨w.heap.size + 1, rfl, ⟨heap_lt hq3, .slice a M.levers.length cap, .slice ba M.bals.length bcap, .slice aA na acap, .slice mA nm mcap, .slice sA ns scap, ?_, (HBV.out.below hbf).mono hbf.size, ?_, ?_, ?_⟩, hbf⟩
                · rw [HO1.out, HO2.out, HLE.out]; exact hq3
                · rw [HO1.out, HO2.out]; exact hA5
                · rw [HO1.out, HO2.out]; exact hM5
                · rw [HO1.out, HO2.out]; exact hS5
end Go.Proofs.Ytomcjopcfdllgaa
