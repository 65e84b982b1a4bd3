/-
  Links, walks: a chain's book for places.
-/
import Derived.Test.YtdkiccndoanlpaaLOpen2

namespace Go.Proofs.Ytdkiccndoanlpaa
open Go.RowKit Go.Sort

set_option maxHeartbeats 2000000 in
theorem openAt_ok (a a2 : Option Addr) (cap cap2 : Nat) (C : Chain) (pv : Value) (xs : List Int) (w : World) (hx : ChainAt w.heap.size w (.agg #[.slice a C.deeds.length cap, .slice a2 C.sights.length cap2, .int .i64 C.wrong]) C) (hpv : IntsAt w.heap.size w pv xs) (hV : validB C = true)
    (hi : allTo (fun i => wB (nth xs i) 0 (lenTo C.deeds C.deeds.length - 1)) xs.length = true) :
    Calls Try.prog 77 #[(.agg #[.slice a C.deeds.length cap, .slice a2 C.sights.length cap2, .int .i64 C.wrong]), pv] w fun e w' => ∃ bm, e = .returned (.tuple #[(.agg #[.slice a C.deeds.length cap, .slice a2 C.sights.length cap2, .int .i64 C.wrong, .slice (some ⟨bm, 0, none⟩) (weldsTo C.deeds C.deeds.length) 12]), .int .i64 0]) ∧ Hid (BookAt w'.heap.size w' (.agg #[.slice a C.deeds.length cap, .slice a2 C.sights.length cap2, .int .i64 C.wrong, .slice (some ⟨bm, 0, none⟩) (weldsTo C.deeds C.deeds.length) 12]) C) ∧ Hid (Below w.heap.size w w') := by
  have hpv' := hpv
  obtain ⟨pa, pcap, pb, poff, rfl, hpm, HPA, HPC, _⟩ := hpv.opened
  have HX := Lib.hid (fun W (hb : Below w.heap.size w W) => (hx.below hb).mono hb.size)
  have HV := Lib.hid hV
  have hnd := (valid_iff.1 hV).nd
  have hw12 : weldsTo C.deeds C.deeds.length ≤ 12 := Nat.le_trans (weldsTo_le _ _) hnd
  have hle := lenTo_le C.deeds C.deeds.length
  obtain ⟨N, hN⟩ : ∃ N, weldsTo C.deeds C.deeds.length = N := ⟨_, rfl⟩
  have HN := Lib.hid hN
  obtain ⟨L, hL⟩ : ∃ L, lenTo C.deeds C.deeds.length = L := ⟨_, rfl⟩
  have HL := Lib.hid hL
  have HLA := Lib.hid (show ∀ W, DeedsTo W.heap.size W (.slice a C.deeds.length cap) C.deeds C.deeds.length → Calls Try.prog 70 #[.slice a C.deeds.length cap] W fun e w' => e = .returned (.int .i64 L) ∧ Below W.heap.size W w' from
    fun W h => hL ▸ lengthAfter_any _ C.deeds C.deeds.length W hnd h)
  rw [hN] at hw12 ⊢
  rw [hL] at hi hle
  have HI := Lib.hid hi
  clear hx hV hN hL hpv hpv' hi
  go_enter Try.func77, Try.ntmps77
  go_wp2_with fail
  refine (open_mk _ _ C _ (HX.out _ (by go_grown)) HV.out).mono ?_
  rintro e w1 ⟨bm, rfl, hbm, hmk, hb1⟩
  rw [HN.out] at hmk ⊢
  have hsz := hb1.size
  simp only [World.size_alloc] at hsz hbm
  have e1 : w1.heap[w.heap.size + 1]? = some (.cells #[.slice none 0 0, .slice none 0 0, .int .i64 0, .slice none 0 0] 84) :=
    (hb1.block (w.heap.size + 1) (by simp)).trans (heap_new1 w _ _)
  have hbw : Below w.heap.size w w1 := ((((Below.refl _ w).alloc (Nat.le_refl _) _).alloc (by simp) _)).trans (hb1.mono (by simp; omega))
  have hlt1 : w.heap.size + 1 < w1.heap.size := heap_lt e1
  have HE1 := Lib.hid e1
  have HMK := Lib.hid hmk
  have HBW := Lib.hid hbw
  clear hb1 hmk e1 hbw hsz
  go_wp2_with fail
  obtain ⟨w2, hw2⟩ : ∃ w2, w2 = w1.alloc (.cells #[.slice a C.deeds.length cap, .slice a2 C.sights.length cap2, .int .i64 C.wrong, .slice (some ⟨bm, 0, none⟩) N 12] 84) := ⟨_, rfl⟩
  rw [← hw2]
  have hb2 : Below w1.heap.size w1 w2 := hw2 ▸ (Below.refl _ w1).alloc (Nat.le_refl _) _
  have e2 : w2.heap[w1.heap.size]? = some (.cells #[.slice a C.deeds.length cap, .slice a2 C.sights.length cap2, .int .i64 C.wrong, .slice (some ⟨bm, 0, none⟩) N 12] 84) := hw2 ▸ heap_new w1 _
  have hbw2 : Below w.heap.size w w2 := HBW.out.trans (hb2.mono (by omega))
  have hD2 : DeedsTo w2.heap.size w2 (.slice a C.deeds.length cap) C.deeds C.deeds.length := by
    obtain ⟨dv, sv, hv, hD, _⟩ := HX.out w2 hbw2
    cases hv
    exact hD
  refine (HLA.out w2 hD2).mono ?_
  rintro e w3 ⟨rfl, hb3⟩
  have hsz2 := hb2.size
  have hlt2 := heap_lt e2
  have e3 := (hb3.block w1.heap.size hlt2).trans e2
  have er := (hb3.block (w.heap.size + 1) (by omega)).trans ((hb2.block (w.heap.size + 1) hlt1).trans HE1.out)
  have hbw3 : Below w.heap.size w w3 := hbw2.trans (hb3.mono (by omega))
  have hbmlt : bm < w1.heap.size := by
    obtain ⟨_, hv, hlt, _⟩ := HMK.out
    cases hv
    exact hlt
  have hmk3 := (HMK.out.below hb2).below (hb3.mono hsz2)
  obtain ⟨r0, r1, r2, r3, z0, z1, z2, z3⟩ := box4f er
  obtain ⟨c0, c1, c2, c3, _⟩ := box4f e3
  have hlt3 : w.heap.size + 1 < w3.heap.size := heap_lt er
  have hs3 : w1.heap.size ≤ w3.heap.size := by have := hb3.size; omega
  have HE3 := Lib.hid er
  have HMK3 := Lib.hid (hmk3.mono hs3)
  have HBW3 := Lib.hid hbw3
  have hwr : IntKind.i64.wrap (L - 1) = L - 1 := IntWalk.i64_in _ (by omega)
  clear hb2 e2 hbw2 hD2 hb3 e3 er hbw3 hmk3 hw2 HLA
  go_wp2_with fail
  go_loop [26] (fun i => ∃ k : Nat, k ≤ xs.length ∧ i = .int .i64 k ∧ Hid (allTo (fun i => wB (nth xs i) 0 (L - 1)) k = true)) (fun i => xs.length - (intOf i).toNat)
  case atStart => exact ⟨0, Nat.zero_le _, rfl, rfl⟩
  case round =>
    obtain ⟨k, hk, rfl, hall⟩ := hrel
    by_cases hlt : k < xs.length
    · obtain ⟨rfl, hpb⟩ := HPA.out (by omega)
      have d0 := (HBW3.out.cell (p := ⟨pb, poff + k, none⟩) hpb).trans (HPC.out k hlt)
      cases hr : wB (nth xs k) 0 (L - 1)
      case false =>
        have := HI.out
        rw [allTo_false hlt hr] at this
        cases this
      case true =>
        have HR := Lib.hid hr
        go_wp2_with (go_at_call 109; refine (within_to (by with_reducible assumption) _).mono ?_; rintro e w' ⟨rfl, rfl⟩)
        exact ⟨⟨k + 1, by omega, by go_num, allTo_step hall HR.out⟩, by simp [intOf]; omega⟩
    · obtain rfl : xs.length = k := by omega
      go_wp2_with fail
      obtain ⟨X, hX⟩ : ∃ X, X = (((w3.setCell ⟨w.heap.size + 1, 0, none⟩ (.slice a C.deeds.length cap)).setCell ⟨w.heap.size + 1, 1, none⟩ (.slice a2 C.sights.length cap2)).setCell ⟨w.heap.size + 1, 2, none⟩ (.int .i64 C.wrong)).setCell ⟨w.heap.size + 1, 3, none⟩ (.slice (some ⟨bm, 0, none⟩) N 12) := ⟨_, rfl⟩
      have hXr := four_set (v0 := .slice a C.deeds.length cap) (v1 := .slice a2 C.sights.length cap2) (v2 := .int .i64 C.wrong) (v3 := .slice (some ⟨bm, 0, none⟩) N 12) HE3.out
      rw [← hX] at hXr
      have hXB := four_below (v0 := .slice a C.deeds.length cap) (v1 := .slice a2 C.sights.length cap2) (v2 := .int .i64 C.wrong) (v3 := .slice (some ⟨bm, 0, none⟩) N 12) HBW3.out (show w.heap.size ≤ w.heap.size + 1 by omega)
      rw [← hX] at hXB
      have hXm : X.heap[bm]? = w3.heap[bm]? := by rw [hX, heap_setCell_other (by omega), heap_setCell_other (by omega), heap_setCell_other (by omega), heap_setCell_other (by omega)]
      rw [← hX]
      obtain ⟨y0, y1, y2, y3, _⟩ := box4f hXr
      have hmY : MarksAt X.heap.size X (.slice (some ⟨bm, 0, none⟩) N 12) C.deeds := by
        obtain ⟨bm', hv, hlt, h12, hc⟩ := HMK3.out
        cases hv
        exact ⟨bm, by rw [HN.out], by have : X.heap.size = w3.heap.size := by rw [hX]; simp only [size_setCell]
                                      omega, h12, fun i hi => ⟨(World.cell?_of_block (a := ⟨bm, i * 2, none⟩) hXm).trans (hc i hi).1, (World.cell?_of_block (a := ⟨bm, i * 2 + 1, none⟩) hXm).trans (hc i hi).2⟩⟩
      refine bodyPost_ret (v := .tuple #[.agg #[.slice a C.deeds.length cap, .slice a2 C.sights.length cap2, .int .i64 C.wrong, .slice (some ⟨bm, 0, none⟩) N 12], .int .i64 0]) (by simp [results, Try.results77, go_sem, y0, y1, y2, y3]) rfl ⟨bm, rfl, ⟨_, _, _, rfl, HX.out X hXB, hmY⟩, hXB⟩

set_option maxHeartbeats 2000000 in
theorem openAt_arg (a a2 : Option Addr) (cap cap2 : Nat) (C : Chain) (pv : Value) (xs : List Int) (w : World) (hx : ChainAt w.heap.size w (.agg #[.slice a C.deeds.length cap, .slice a2 C.sights.length cap2, .int .i64 C.wrong]) C) (hpv : IntsAt w.heap.size w pv xs) (hV : validB C = true)
    (hi : allTo (fun i => wB (nth xs i) 0 (lenTo C.deeds C.deeds.length - 1)) xs.length = false) :
    Calls Try.prog 77 #[(.agg #[.slice a C.deeds.length cap, .slice a2 C.sights.length cap2, .int .i64 C.wrong]), pv] w fun e w' => e = .returned (.tuple #[noBook, .int .i64 1]) ∧ Hid (Below w.heap.size w w') := by
  have hpv' := hpv
  obtain ⟨pa, pcap, pb, poff, rfl, hpm, HPA, HPC, _⟩ := hpv.opened
  have HX := Lib.hid (fun W (hb : Below w.heap.size w W) => (hx.below hb).mono hb.size)
  have HV := Lib.hid hV
  have hnd := (valid_iff.1 hV).nd
  have hw12 : weldsTo C.deeds C.deeds.length ≤ 12 := Nat.le_trans (weldsTo_le _ _) hnd
  have hle := lenTo_le C.deeds C.deeds.length
  obtain ⟨N, hN⟩ : ∃ N, weldsTo C.deeds C.deeds.length = N := ⟨_, rfl⟩
  have HN := Lib.hid hN
  obtain ⟨L, hL⟩ : ∃ L, lenTo C.deeds C.deeds.length = L := ⟨_, rfl⟩
  have HL := Lib.hid hL
  have HLA := Lib.hid (show ∀ W, DeedsTo W.heap.size W (.slice a C.deeds.length cap) C.deeds C.deeds.length → Calls Try.prog 70 #[.slice a C.deeds.length cap] W fun e w' => e = .returned (.int .i64 L) ∧ Below W.heap.size W w' from
    fun W h => hL ▸ lengthAfter_any _ C.deeds C.deeds.length W hnd h)
  rw [hN] at hw12
  rw [hL] at hi hle
  have HI := Lib.hid hi
  clear hx hV hN hL hpv hpv' hi
  go_enter Try.func77, Try.ntmps77
  go_wp2_with fail
  refine (open_mk _ _ C _ (HX.out _ (by go_grown)) HV.out).mono ?_
  rintro e w1 ⟨bm, rfl, hbm, hmk, hb1⟩
  rw [HN.out] at hmk ⊢
  have hsz := hb1.size
  simp only [World.size_alloc] at hsz hbm
  have e1 : w1.heap[w.heap.size + 1]? = some (.cells #[.slice none 0 0, .slice none 0 0, .int .i64 0, .slice none 0 0] 84) :=
    (hb1.block (w.heap.size + 1) (by simp)).trans (heap_new1 w _ _)
  have hbw : Below w.heap.size w w1 := ((((Below.refl _ w).alloc (Nat.le_refl _) _).alloc (by simp) _)).trans (hb1.mono (by simp; omega))
  have hlt1 : w.heap.size + 1 < w1.heap.size := heap_lt e1
  have HE1 := Lib.hid e1
  have HMK := Lib.hid hmk
  have HBW := Lib.hid hbw
  clear hb1 hmk e1 hbw hsz
  go_wp2_with fail
  obtain ⟨w2, hw2⟩ : ∃ w2, w2 = w1.alloc (.cells #[.slice a C.deeds.length cap, .slice a2 C.sights.length cap2, .int .i64 C.wrong, .slice (some ⟨bm, 0, none⟩) N 12] 84) := ⟨_, rfl⟩
  rw [← hw2]
  have hb2 : Below w1.heap.size w1 w2 := hw2 ▸ (Below.refl _ w1).alloc (Nat.le_refl _) _
  have e2 : w2.heap[w1.heap.size]? = some (.cells #[.slice a C.deeds.length cap, .slice a2 C.sights.length cap2, .int .i64 C.wrong, .slice (some ⟨bm, 0, none⟩) N 12] 84) := hw2 ▸ heap_new w1 _
  have hbw2 : Below w.heap.size w w2 := HBW.out.trans (hb2.mono (by omega))
  have hD2 : DeedsTo w2.heap.size w2 (.slice a C.deeds.length cap) C.deeds C.deeds.length := by
    obtain ⟨dv, sv, hv, hD, _⟩ := HX.out w2 hbw2
    cases hv
    exact hD
  refine (HLA.out w2 hD2).mono ?_
  rintro e w3 ⟨rfl, hb3⟩
  have hsz2 := hb2.size
  have hlt2 := heap_lt e2
  have e3 := (hb3.block w1.heap.size hlt2).trans e2
  have er := (hb3.block (w.heap.size + 1) (by omega)).trans ((hb2.block (w.heap.size + 1) hlt1).trans HE1.out)
  have hbw3 : Below w.heap.size w w3 := hbw2.trans (hb3.mono (by omega))
  have hbmlt : bm < w1.heap.size := by
    obtain ⟨_, hv, hlt, _⟩ := HMK.out
    cases hv
    exact hlt
  have hmk3 := (HMK.out.below hb2).below (hb3.mono hsz2)
  obtain ⟨r0, r1, r2, r3, z0, z1, z2, z3⟩ := box4f er
  obtain ⟨c0, c1, c2, c3, _⟩ := box4f e3
  have hlt3 : w.heap.size + 1 < w3.heap.size := heap_lt er
  have hs3 : w1.heap.size ≤ w3.heap.size := by have := hb3.size; omega
  have HE3 := Lib.hid er
  have HMK3 := Lib.hid (hmk3.mono hs3)
  have HBW3 := Lib.hid hbw3
  have hwr : IntKind.i64.wrap (L - 1) = L - 1 := IntWalk.i64_in _ (by omega)
  clear hb2 e2 hbw2 hD2 hb3 e3 er hbw3 hmk3 hw2 HLA
  go_wp2_with fail
  go_loop [26] (fun i => ∃ k : Nat, k ≤ xs.length ∧ i = .int .i64 k ∧ Hid (allTo (fun i => wB (nth xs i) 0 (L - 1)) k = true)) (fun i => xs.length - (intOf i).toNat)
  case atStart => exact ⟨0, Nat.zero_le _, rfl, rfl⟩
  case round =>
    obtain ⟨k, hk, rfl, hall⟩ := hrel
    by_cases hlt : k < xs.length
    · obtain ⟨rfl, hpb⟩ := HPA.out (by omega)
      have d0 := (HBW3.out.cell (p := ⟨pb, poff + k, none⟩) hpb).trans (HPC.out k hlt)
      cases hr : wB (nth xs k) 0 (L - 1)
      case false =>
        go_wp2_with (go_at_call 109; refine (within_to (by with_reducible assumption) _).mono ?_; rintro e w' ⟨rfl, rfl⟩)
        obtain ⟨X, hX⟩ : ∃ X, X = (((w3.setCell ⟨w.heap.size + 1, 0, none⟩ (.slice none 0 0)).setCell ⟨w.heap.size + 1, 1, none⟩ (.slice none 0 0)).setCell ⟨w.heap.size + 1, 2, none⟩ (.int .i64 0)).setCell ⟨w.heap.size + 1, 3, none⟩ (.slice none 0 0) := ⟨_, rfl⟩
        have hXr := four_set (v0 := .slice none 0 0) (v1 := .slice none 0 0) (v2 := .int .i64 0) (v3 := .slice none 0 0) HE3.out
        rw [← hX] at hXr
        have hXB := four_below (v0 := .slice none 0 0) (v1 := .slice none 0 0) (v2 := .int .i64 0) (v3 := .slice none 0 0) HBW3.out (show w.heap.size ≤ w.heap.size + 1 by omega)
        rw [← hX] at hXB
        have hXm : X.heap[bm]? = w3.heap[bm]? := by rw [hX, heap_setCell_other (by omega), heap_setCell_other (by omega), heap_setCell_other (by omega), heap_setCell_other (by omega)]
        rw [← hX]
        obtain ⟨y0, y1, y2, y3, _⟩ := box4f hXr
        refine bodyPost_ret (v := .tuple #[noBook, .int .i64 1]) (by simp [results, Try.results77, go_sem, y0, y1, y2, y3]) rfl ⟨rfl, hXB⟩
      case true =>
        have HR := Lib.hid hr
        go_wp2_with (go_at_call 109; refine (within_to (by with_reducible assumption) _).mono ?_; rintro e w' ⟨rfl, rfl⟩)
        exact ⟨⟨k + 1, by omega, by go_num, allTo_step hall HR.out⟩, by simp [intOf]; omega⟩
    · obtain rfl : xs.length = k := by omega
      have := HI.out
      rw [hall.out] at this
      cases this

end Go.Proofs.Ytdkiccndoanlpaa
