/-
  Links, the law's reference: the length of a cable, all bars and smiths at a place.
-/
import Derived.Test.YtgjikoebneiamaaLRefAns

namespace Go.Proofs.Ytgjikoebneiamaa
open Go.RowKit Go.Shelf

set_option maxRecDepth 100000 in
set_option maxHeartbeats 2000000 in
theorem rLength_any (v : Value) (C : Chain) (w : World) (hx : ChainAt w.heap.size w v C) :
    Calls Try.prog 19 #[v] w fun e w' => e = .returned (.tuple #[.int .i64 (if validB C = true then lenTo C.deeds C.deeds.length else 0), .int .i64 (chkS C)]) ∧ Below w.heap.size w w' := by
  have HDD := Lib.hid (show ∀ W, Below w.heap.size w W → ∃ dv sv, v = .agg #[dv, sv, .int .i64 C.wrong] ∧ DeedsTo W.heap.size W dv C.deeds C.deeds.length from fun W hb => by
    obtain ⟨dv, sv, h1, h2, _⟩ := hx
    exact ⟨dv, sv, h1, (h2.below hb).mono hb.size⟩)
  have hx' := hx
  obtain ⟨a, cap, b, off, a2, cap2, b2, off2, rfl, hm, hm2, hcap, hcapm, HA, HC, HA2, HC2, HI, HI2⟩ := hx.opened
  have HS0 := Lib.hid (LStat.first hx')
  obtain ⟨c0, c1, c2⟩ := HS0.out.cells
  clear hx hx' HA HC HA2 HC2 HI HI2
  cases hv : validB C
  case false =>
    have HV := Lib.hid hv
    clear hv
    go_enter Try.func19, Try.ntmps19
    go_wp2_with fail
    refine (rCheck_to (chkS_bad HV.out) HS0.out.st).mono ?_
    rintro e w1 ⟨rfl, hb1⟩
    have HB := Lib.hid (HS0.out.next hb1).b
    clear hb1
    go_wp2
    go_ret2
    exact ⟨by rw [chkS_bad HV.out]; rfl, HB.out⟩
  have HV := Lib.hid hv
  have hV' := valid_iff.1 hv
  have HV' := Lib.hid hV'
  have hnd := hV'.nd
  have hns := hV'.ns
  clear hv hV'
  have HCK := Lib.hid (chkS_ok HV.out)
  rw [if_pos rfl, HCK.out]
  have hdo : deedsOk C.deeds = true := by
    have := HV.out
    simp only [validB, Bool.and_eq_true] at this
    exact this.1.2
  have HDO := Lib.hid hdo
  obtain ⟨y, hy⟩ : ∃ y, lenTo C.deeds C.deeds.length = y := ⟨_, rfl⟩
  have HY := Lib.hid hy
  rw [hy]
  clear hdo hy
  go_enter Try.func19, Try.ntmps19
  go_wp2_with fail
  refine (rCheck_to (chkS_ok HV.out) HS0.out.st).mono ?_
  rintro e w1 ⟨rfl, hb1⟩
  have HS1 := Lib.hid (HS0.out.next hb1)
  clear hb1 c0 c1 c2
  obtain ⟨c0, c1, c2⟩ := HS1.out.cells
  go_wp2_with fail
  have hdd : DeedsTo w1.heap.size w1 (.slice a C.deeds.length cap) C.deeds C.deeds.length := by
    obtain ⟨dv, sv, e, h⟩ := HDD.out w1 HS1.out.b
    injection e with e
    simp only [Array.mk.injEq, List.cons.injEq, and_true] at e
    obtain ⟨rfl, rfl⟩ := e
    exact h
  refine (lengths_any _ C.deeds _ hnd hdd).mono ?_
  rintro e w2 ⟨mv, rfl, hmv, hb2⟩
  obtain ⟨ma, mcap, mb, moff, rfl, hmm, HMA, HMC, HMI⟩ := (hmv HDO.out).opened
  have hml := lensL_len C.deeds C.deeds.length
  obtain ⟨rfl, hmb⟩ := HMA.out (by omega)
  have m0 := HMC.out C.deeds.length (by omega)
  rw [lensL_nth C.deeds (Nat.le_refl _), HY.out] at m0
  rw [hml]
  have HS2 := Lib.hid (HS1.out.next hb2)
  have hn0 : (0 : Int) ≤ (C.deeds.length : Int) := by omega
  have hn1 : (C.deeds.length : Int) < (C.deeds.length : Int) + 1 := by omega
  clear hb2 hmv HMC HMI HMA hml hdd c0 c1 c2
  obtain ⟨c0, c1, c2⟩ := HS2.out.cells
  go_wp2
  go_ret2
  exact ⟨rfl, HS2.out.b⟩

/-- The links that can be at a place, in the reference's words. -/
def whoR (C : Chain) (at_ : Int) : List Int := selTo ((knownL C (placeB C at_)).map (linkAt C at_.toNat)) 0 13
theorem whoR_at {C : Chain} {at_ : Int} {x : Int} (h : x ∈ whoR C at_) : validB C = true ∧ ∃ q : Nat, x = q ∧ q < weldsTo C.deeds C.deeds.length := by
  obtain ⟨h1, h2, h3⟩ := mem_selTo.1 h
  obtain ⟨e, he, rfl⟩ := List.mem_map.1 h1
  obtain ⟨hv, hp⟩ := known_valid (List.length_pos_of_mem he)
  have hV := valid_iff.1 hv
  have hpw := wB_iff.1 hp
  have hsl := (story_ok (ends := e) hV.deed C.deeds.length (Nat.le_refl _)).1
  obtain ⟨q, hq, hqw⟩ := story_link hV e (Nat.le_refl _) (j := at_.toNat) (by omega)
  exact ⟨hv, q, hq, hqw⟩
theorem map_take_ints {xs : List Int} {f : Int → Int} {k : Nat} (h : k < xs.length) : (xs.take (k + 1)).map f = (xs.take k).map f ++ [f (nth xs k)] := by
  rw [take_snoc h, List.map_append, nth_lt h]; rfl

set_option maxRecDepth 100000 in
set_option maxHeartbeats 8000000 in
theorem rBars_any (v : Value) (C : Chain) (at_ : Int) (w : World) (hn : C.deeds.length ≤ 40) (hx : ChainAt w.heap.size w v C) :
    Calls Try.prog 28 #[v, .int .i64 at_] w fun e w' => ∃ q, e = .returned (.tuple #[q, .int .i64 (knownE C (placeB C at_))]) ∧ OwnInts w' q (selTo ((whoR C at_).map (fun q => (markD C.deeds q).bar)) 0 100) ∧ Below w.heap.size w w' := by
  obtain ⟨i0, hiT, hz0, hz1, hz2⟩ := info_parts Try_infoInt
  have HWA := Lib.hid (fun x (h : x ∈ whoR C at_) => whoR_at h)
  have hT13 : (whoR C at_).length ≤ 13 := selTo_le _ _ _
  obtain ⟨WR, hWR⟩ : ∃ WR, whoR C at_ = WR := ⟨_, rfl⟩
  obtain ⟨E, hE⟩ : ∃ E, knownE C (placeB C at_) = E := ⟨_, rfl⟩
  obtain ⟨T, hT⟩ : ∃ T, WR.length = T := ⟨_, rfl⟩
  rw [hWR] at HWA hT13
  rw [hT] at hT13
  rw [hWR, hE]
  have HWR := Lib.hid hWR
  have HE := Lib.hid hE
  have HTT := Lib.hid hT
  have HN40 := Lib.hid hn
  clear hWR hE hT
  have hx' := hx
  obtain ⟨a, cap, b, off, a2, cap2, b2, off2, rfl, hm, hm2, hcap, hcapm, HA, HC, HA2, HC2, HI, HI2⟩ := hx.opened
  have HS0 := Lib.hid (LStat.first hx')
  obtain ⟨c0, c1, c2⟩ := HS0.out.cells
  have HDA := Lib.hid (fun h => HA.out h)
  have HDC := HC
  clear hx hx' HA2 HC2 HI HI2
  go_enter Try.func28, Try.ntmps28
  go_wp2_with fail
  refine (rWho_any _ C at_ _ hn HS0.out.st).mono ?_
  rintro e w1 ⟨q, rfl, hq, hb1⟩
  rw [HE.out]
  have hq : OwnInts w1 q WR := HWR.out ▸ hq
  obtain ⟨qA, qc, rfl, _⟩ := own_form hq
  rw [HTT.out] at hq ⊢
  have HQ := Lib.hid hq
  have HS1 := Lib.hid (HS0.out.next hb1)
  clear hq hb1 c0 c1 c2
  obtain ⟨c0, c1, c2⟩ := HS1.out.cells
  go_wp2_with fail
  go_loopw [8, 9] (fun o i wr => ∃ k : Nat, k ≤ T ∧ i = .int .i64 k ∧ Hid (wr.ownsRow w1.heap.size 3 1 o k (((WR.take k).map (fun q => (markD C.deeds q).bar)).map (Value.int .i64))) ∧ Hid (Below w1.heap.size w1 wr)) (fun _ i _ => T - (intOf i).toNat)
  case atStart => exact ⟨0, Nat.zero_le _, rfl, World.ownsRow_nil _ _ _ _, Below.refl _ _⟩
  case round =>
    obtain ⟨k, hk, rfl, hown, hbl⟩ := hrel
    obtain ⟨oA, oc, rfl, _⟩ := own_form hown.out
    clear c0 c1 c2
    have HSR := Lib.hid (HS1.out.next hbl.out)
    obtain ⟨c0, c1, c2⟩ := HSR.out.cells
    by_cases hlt : k < T
    · have hkW : k < WR.length := by rw [HTT.out]; exact hlt
      obtain ⟨hv, q, hqe, hqw⟩ := HWA.out _ (nth_mem hkW)
      have hV' := valid_iff.1 hv
      obtain ⟨j, hj, hjn, hdj⟩ := weld_deed hV' hqw
      obtain ⟨d, hd⟩ : ∃ d, dnth (weldL C.deeds) q = d := ⟨_, rfl⟩
      rw [hd] at hdj
      obtain ⟨rfl, hbw⟩ := HDA.out (by omega)
      have HD0 := Lib.hid (show Five w b (off + j * 5) d.what d.at_ d.from_ d.bar d.smith from by have := HDC.out j hjn; rwa [hdj] at this)
      obtain ⟨lg, lc, hlq, hcell⟩ := (HQ.out.below hbl.out).at hkW
      injection hlq with hq1 hq2 hq3
      clear hq2
      subst hq1 hq3
      rw [hqe] at hcell
      have HJ := Lib.hid hj
      have HQW := Lib.hid hqw
      have hcl := block_lt_of_cell hcell
      have HCE := Lib.hid hcell
      have hk0 : (0 : Int) ≤ (k : Nat) := by omega
      have hk1 : ((k : Nat) : Int) < (T : Int) := by omega
      have hjn0 : (0 : Int) ≤ (j : Nat) := by omega
      have hjn1 : ((j : Nat) : Int) < (C.deeds.length : Int) := by omega
      have HN := Lib.hid (show (WR.take (k + 1)).map (fun q => (markD C.deeds q).bar) = (WR.take k).map (fun q => (markD C.deeds q).bar) ++ [d.bar] by
        rw [map_take_ints hkW, hqe, ← hd]
        simp only [markD, Int.toNat_natCast])
      obtain ⟨Xk, hXk⟩ : ∃ Xk, ((WR.take k).map (fun q => (markD C.deeds q).bar)).map (Value.int .i64) = Xk := ⟨_, rfl⟩
      have HXk := Lib.hid hXk
      have HOW := Lib.hid (show wr.ownsRow w1.heap.size 3 1 (.slice oA k oc) k Xk from hXk ▸ hown.out)
      clear hv hV' hj hdj hd hcell hqe hqw hXk hown hkW
      go_upto_region 6 with fail
      clear c0 c1 c2
      refine wp_region_facts _ 15 [22, 23, 24, 25, 26, 27, 28, 29, 30, 31, 32, 33, 34, 35, 36] [isV (.slice oA k oc), isV (.pointer (some ⟨w.heap.size, 0, none⟩)), isV (.slice (some ⟨b, off, none⟩) C.deeds.length cap), isV (.agg #[.slice (some ⟨b, off, none⟩) C.deeds.length cap, .slice a2 C.sights.length cap2, .int .i64 C.wrong]), ⟨fun v W => OwnInts W v (weldIx C.deeds C.deeds.length), fun _ _ _ h hb => h.below hb⟩, isV (.slice (some ⟨lg, 0, none⟩) T qc), isV (.int .i64 (k : Int)), isV (.pointer (some ⟨lg, k, none⟩)), isV (.int .i64 (q : Int)), ⟨fun v W => ∃ g, v = .pointer (some ⟨g, q, none⟩) ∧ W.cell? ⟨g, q, none⟩ = some (.int .i64 (j : Int)), fun _ _ _ ⟨g, h1, h2⟩ hb => ⟨g, h1, (hb.cell (block_lt_of_cell h2)).trans h2⟩⟩, isV (.int .i64 (j : Int)), isV (.pointer (some ⟨b, off + j * 5, none⟩)), isV (.pointer (some ⟨b, off + j * 5 + 3, none⟩)), isV (.int .i64 d.bar), ⟨fun v W => ∃ A, v = .slice (some ⟨A, 0, none⟩) 1 1 ∧ W.heap[A]? = some (.cells #[.int .i64 d.bar] 3), fun _ _ _ ⟨A, h1, h2⟩ hb => ⟨A, h1, (hb.block A (heap_lt h2)).trans h2⟩⟩] (by kernel_rfl) (by kernel_rfl) (by kernel_rfl) rfl (by decide) (by decide) (by simp) ?step ?rest
      case step =>
        intro i ac W d hi hd hb hoff hdep
        have hs := HSR.out.next hb
        obtain ⟨c0, c1, c2⟩ := hs.cells
        have hcell := (hb.cell hcl).trans HCE.out
        obtain ⟨d0, d1, d2, d3, d4⟩ := HD0.out.below hs.b hbw
        have hi2 : i = 0 ∨ i = 1 ∨ i = 2 ∨ i = 3 ∨ i = 4 ∨ i = 5 ∨ i = 6 ∨ i = 7 ∨ i = 8 ∨ i = 9 ∨ i = 10 ∨ i = 11 ∨ i = 12 ∨ i = 13 ∨ i = 14 := by omega
        rcases hi2 with rfl | rfl | rfl | rfl | rfl | rfl | rfl | rfl | rfl | rfl | rfl | rfl | rfl | rfl | rfl
        · obtain rfl : 22 = d := by simpa using hd
          have q8 : ac.tmps[8]?.getD undef = .slice oA k oc := (eval_tmp _ _).symm.trans <| (hoff 8 (by decide)).trans rfl
          refine fact_value rfl rfl rfl (v := .slice oA k oc) (W' := W) ?_ (Below.refl _ _) rfl
          simp only [execOp]
          go_simp
        · obtain rfl : 23 = d := by simpa using hd
          have q2 : ac.tmps[2]?.getD undef = .pointer (some ⟨w.heap.size, 0, none⟩) := (eval_tmp _ _).symm.trans <| (hoff 2 (by decide)).trans rfl
          refine fact_value rfl rfl rfl (v := .pointer (some ⟨w.heap.size, 0, none⟩)) (W' := W) ?_ (Below.refl _ _) rfl
          simp only [execOp]
          go_simp
        · obtain rfl : 24 = d := by simpa using hd
          have q23 : ac.tmps[23]?.getD undef = .pointer (some ⟨w.heap.size, 0, none⟩) := (eval_tmp _ _).symm.trans (hdep 1 23 rfl rfl)
          refine fact_value rfl rfl rfl (v := .slice (some ⟨b, off, none⟩) C.deeds.length cap) (W' := W) ?_ (Below.refl _ _) rfl
          simp only [execOp]
          go_simp
        · obtain rfl : 25 = d := by simpa using hd
          have q2 : ac.tmps[2]?.getD undef = .pointer (some ⟨w.heap.size, 0, none⟩) := (eval_tmp _ _).symm.trans <| (hoff 2 (by decide)).trans rfl
          refine fact_value rfl rfl rfl (v := .agg #[.slice (some ⟨b, off, none⟩) C.deeds.length cap, .slice a2 C.sights.length cap2, .int .i64 C.wrong]) (W' := W) ?_ (Below.refl _ _) rfl
          simp only [execOp]
          go_simp
        · obtain rfl : 26 = d := by simpa using hd
          have q25 : ac.tmps[25]?.getD undef = .agg #[.slice (some ⟨b, off, none⟩) C.deeds.length cap, .slice a2 C.sights.length cap2, .int .i64 C.wrong] := (eval_tmp _ _).symm.trans (hdep 3 25 rfl rfl)
          refine fact_call rfl rfl rfl (f := 54) (args := #[.agg #[.slice (some ⟨b, off, none⟩) C.deeds.length cap, .slice a2 C.sights.length cap2, .int .i64 C.wrong]]) ?_ ?_
          · simp only [execOp]
            go_simp
          · refine (Welds_o _ C W HN40.out hs.st).mono ?_
            rintro e W' ⟨q, rfl, hls, hbk⟩
            exact ⟨q, rfl, hbk, hls⟩
        · obtain rfl : 27 = d := by simpa using hd
          have q6 : ac.tmps[6]?.getD undef = .slice (some ⟨lg, 0, none⟩) T qc := (eval_tmp _ _).symm.trans <| (hoff 6 (by decide)).trans rfl
          refine fact_value rfl rfl rfl (v := .slice (some ⟨lg, 0, none⟩) T qc) (W' := W) ?_ (Below.refl _ _) rfl
          simp only [execOp]
          go_simp
        · obtain rfl : 28 = d := by simpa using hd
          have q9 : ac.tmps[9]?.getD undef = .int .i64 (k : Int) := (eval_tmp _ _).symm.trans <| (hoff 9 (by decide)).trans rfl
          refine fact_value rfl rfl rfl (v := .int .i64 (k : Int)) (W' := W) ?_ (Below.refl _ _) rfl
          simp only [execOp]
          go_simp
        · obtain rfl : 29 = d := by simpa using hd
          have q27 : ac.tmps[27]?.getD undef = .slice (some ⟨lg, 0, none⟩) T qc := (eval_tmp _ _).symm.trans (hdep 5 27 rfl rfl)
          have q28 : ac.tmps[28]?.getD undef = .int .i64 (k : Int) := (eval_tmp _ _).symm.trans (hdep 6 28 rfl rfl)
          refine fact_value rfl rfl rfl (v := .pointer (some ⟨lg, k, none⟩)) (W' := W) ?_ (Below.refl _ _) rfl
          simp only [execOp]
          go_simp
        · obtain rfl : 30 = d := by simpa using hd
          have q29 : ac.tmps[29]?.getD undef = .pointer (some ⟨lg, k, none⟩) := (eval_tmp _ _).symm.trans (hdep 7 29 rfl rfl)
          refine fact_value rfl rfl rfl (v := .int .i64 (q : Int)) (W' := W) ?_ (Below.refl _ _) rfl
          simp only [execOp]
          go_simp
        · obtain rfl : 31 = d := by simpa using hd
          have q26 : OwnInts W (ac.tmps[26]?.getD undef) (weldIx C.deeds C.deeds.length) := eval_tmp ac _ ▸ hdep 4 26 rfl rfl
          have q30 : ac.tmps[30]?.getD undef = .int .i64 (q : Int) := (eval_tmp _ _).symm.trans (hdep 8 30 rfl rfl)
          obtain ⟨g, c, hq, hcell⟩ := q26.at ((show q < (weldIx C.deeds C.deeds.length).length by rw [weldIx_len]; exact HQW.out))
          rw [HJ.out] at hcell
          have i1 : (0 : Int) ≤ (q : Nat) := by omega
          have i2 : ((q : Nat) : Int) < ((weldIx C.deeds C.deeds.length).length : Int) := by have := (show q < (weldIx C.deeds C.deeds.length).length by rw [weldIx_len]; exact HQW.out); omega
          refine fact_value rfl rfl rfl (v := .pointer (some ⟨g, q, none⟩)) (W' := W) ?_ (Below.refl _ _) ⟨g, rfl, hcell⟩
          simp only [execOp]
          go_simp
        · obtain rfl : 32 = d := by simpa using hd
          have q31 : ∃ g, (ac.tmps[31]?.getD undef) = .pointer (some ⟨g, q, none⟩) ∧ W.cell? ⟨g, q, none⟩ = some (.int .i64 (j : Int)) := eval_tmp ac _ ▸ hdep 9 31 rfl rfl
          obtain ⟨g, hq, hcell⟩ := q31
          refine fact_value rfl rfl rfl (v := .int .i64 (j : Int)) (W' := W) ?_ (Below.refl _ _) rfl
          simp only [execOp]
          go_simp
        · obtain rfl : 33 = d := by simpa using hd
          have q24 : ac.tmps[24]?.getD undef = .slice (some ⟨b, off, none⟩) C.deeds.length cap := (eval_tmp _ _).symm.trans (hdep 2 24 rfl rfl)
          have q32 : ac.tmps[32]?.getD undef = .int .i64 (j : Int) := (eval_tmp _ _).symm.trans (hdep 10 32 rfl rfl)
          refine fact_value rfl rfl rfl (v := .pointer (some ⟨b, off + j * 5, none⟩)) (W' := W) ?_ (Below.refl _ _) rfl
          simp only [execOp]
          go_simp
        · obtain rfl : 34 = d := by simpa using hd
          have q33 : ac.tmps[33]?.getD undef = .pointer (some ⟨b, off + j * 5, none⟩) := (eval_tmp _ _).symm.trans (hdep 11 33 rfl rfl)
          refine fact_value rfl rfl rfl (v := .pointer (some ⟨b, off + j * 5 + 3, none⟩)) (W' := W) ?_ (Below.refl _ _) rfl
          simp only [execOp]
          go_simp
        · obtain rfl : 35 = d := by simpa using hd
          have q34 : ac.tmps[34]?.getD undef = .pointer (some ⟨b, off + j * 5 + 3, none⟩) := (eval_tmp _ _).symm.trans (hdep 12 34 rfl rfl)
          refine fact_value rfl rfl rfl (v := .int .i64 d.bar) (W' := W) ?_ (Below.refl _ _) rfl
          simp only [execOp]
          go_simp
        · obtain rfl : 36 = d := by simpa using hd
          have q35 : ac.tmps[35]?.getD undef = .int .i64 d.bar := (eval_tmp _ _).symm.trans (hdep 13 35 rfl rfl)
          refine fact_value rfl rfl rfl (v := .slice (some ⟨W.heap.size, 0, none⟩) 1 1) (W' := W.alloc (.cells #[.int .i64 d.bar] 3)) ?_ ((Below.refl _ _).alloc (Nat.le_refl _) _) ⟨_, rfl, heap_new _ _⟩
          simp only [execOp]
          go_simp
      case rest =>
        intro vs W2 hvl hbx hval
        obtain ⟨z0, z1, z2, z3, z4, z5, z6, z7, z8, z9, z10, z11, z12, z13, z14, rfl⟩ : ∃ z0 z1 z2 z3 z4 z5 z6 z7 z8 z9 z10 z11 z12 z13 z14, vs = [z0, z1, z2, z3, z4, z5, z6, z7, z8, z9, z10, z11, z12, z13, z14] := by
          match vs, hvl with
          | [z0, z1, z2, z3, z4, z5, z6, z7, z8, z9, z10, z11, z12, z13, z14], _ => exact ⟨z0, z1, z2, z3, z4, z5, z6, z7, z8, z9, z10, z11, z12, z13, z14, rfl⟩
        obtain rfl : z0 = .slice oA k oc := by obtain ⟨u, e, h⟩ := hval 0 (by omega); have e2 : some z0 = some u := e; injection e2 with e2; subst e2; exact h
        obtain rfl : z1 = .pointer (some ⟨w.heap.size, 0, none⟩) := by obtain ⟨u, e, h⟩ := hval 1 (by omega); have e2 : some z1 = some u := e; injection e2 with e2; subst e2; exact h
        obtain rfl : z2 = .slice (some ⟨b, off, none⟩) C.deeds.length cap := by obtain ⟨u, e, h⟩ := hval 2 (by omega); have e2 : some z2 = some u := e; injection e2 with e2; subst e2; exact h
        obtain rfl : z3 = .agg #[.slice (some ⟨b, off, none⟩) C.deeds.length cap, .slice a2 C.sights.length cap2, .int .i64 C.wrong] := by obtain ⟨u, e, h⟩ := hval 3 (by omega); have e2 : some z3 = some u := e; injection e2 with e2; subst e2; exact h
        have k4 : OwnInts W2 z4 (weldIx C.deeds C.deeds.length) := by obtain ⟨u, e, h⟩ := hval 4 (by omega); have e2 : some z4 = some u := e; injection e2 with e2; subst e2; exact h
        obtain rfl : z5 = .slice (some ⟨lg, 0, none⟩) T qc := by obtain ⟨u, e, h⟩ := hval 5 (by omega); have e2 : some z5 = some u := e; injection e2 with e2; subst e2; exact h
        obtain rfl : z6 = .int .i64 (k : Int) := by obtain ⟨u, e, h⟩ := hval 6 (by omega); have e2 : some z6 = some u := e; injection e2 with e2; subst e2; exact h
        obtain rfl : z7 = .pointer (some ⟨lg, k, none⟩) := by obtain ⟨u, e, h⟩ := hval 7 (by omega); have e2 : some z7 = some u := e; injection e2 with e2; subst e2; exact h
        obtain rfl : z8 = .int .i64 (q : Int) := by obtain ⟨u, e, h⟩ := hval 8 (by omega); have e2 : some z8 = some u := e; injection e2 with e2; subst e2; exact h
        have k9 : ∃ g, z9 = .pointer (some ⟨g, q, none⟩) ∧ W2.cell? ⟨g, q, none⟩ = some (.int .i64 (j : Int)) := by obtain ⟨u, e, h⟩ := hval 9 (by omega); have e2 : some z9 = some u := e; injection e2 with e2; subst e2; exact h
        obtain rfl : z10 = .int .i64 (j : Int) := by obtain ⟨u, e, h⟩ := hval 10 (by omega); have e2 : some z10 = some u := e; injection e2 with e2; subst e2; exact h
        obtain rfl : z11 = .pointer (some ⟨b, off + j * 5, none⟩) := by obtain ⟨u, e, h⟩ := hval 11 (by omega); have e2 : some z11 = some u := e; injection e2 with e2; subst e2; exact h
        obtain rfl : z12 = .pointer (some ⟨b, off + j * 5 + 3, none⟩) := by obtain ⟨u, e, h⟩ := hval 12 (by omega); have e2 : some z12 = some u := e; injection e2 with e2; subst e2; exact h
        obtain rfl : z13 = .int .i64 d.bar := by obtain ⟨u, e, h⟩ := hval 13 (by omega); have e2 : some z13 = some u := e; injection e2 with e2; subst e2; exact h
        have k14 : ∃ A, z14 = .slice (some ⟨A, 0, none⟩) 1 1 ∧ W2.heap[A]? = some (.cells #[.int .i64 d.bar] 3) := by obtain ⟨u, e, h⟩ := hval 14 (by omega); have e2 : some z14 = some u := e; injection e2 with e2; subst e2; exact h
        clear hval hvl
        obtain ⟨A, rfl, hA⟩ := k14
        have HAA := Lib.hid hA
        have HBX := Lib.hid hbx
        have hsr := hbl.out.size
        have hsx := hbx.size
        clear k4 k9 hA hbx
        simp only [putL, Act.put, List.drop, List.setIfInBounds_toArray, List.set_cons_zero, List.set_cons_succ]
        go_wp2_with (at_builtin; refine wpList_append_own _ rfl (.tmp 22) (.tmp 36) 33 rfl w1.heap.size 3 i0 (.int .i64 0) 1 8 Try.underlying33 hiT hz0 hz1 hz2 rfl (by decide) (.slice oA k oc) k _ rfl (own_below HOW.out HBX.out) ⟨A, 0, none⟩ 1 1 [.int .i64 d.bar] rfl rfl ?f1 ?f2 ?f3 ?f4 ?f5 ?_)
        case f1 => exact fun j u hj => by have h1 := World.news_of_block (fr := (0, 0)) HAA.out j u hj; rwa [add_plain0, Nat.zero_add] at h1
        case f2 => simp [Value.oneCell']
        case f3 => unfold maxLen; omega
        case f4 => omega
        case f5 => omega
        intro v' w5 hown' hgrow _
        have HO := Lib.hid hown'
        have HF := Lib.hid ((hbl.out.trans (HBX.out.mono hsr)).grown hgrow (by omega) (fun j e => (HOW.out.lt j e).1))
        clear hown' hgrow
        go_wp2
        exact ⟨⟨k + 1, by omega, by go_num, by rw [HN.out, List.map_append, HXk.out]; exact HO.out, HF.out⟩, by simp [intOf]; omega⟩
    · obtain rfl : T = k := by omega
      have HALL := Lib.hid (show (WR.take T).map (fun q => (markD C.deeds q).bar) = WR.map (fun q => (markD C.deeds q).bar) by rw [List.take_of_length_le (by rw [HTT.out]; exact Nat.le_refl _)])
      have HI64 := Lib.hid (show ∀ z ∈ WR.map (fun q => (markD C.deeds q).bar), I64 z from fun z hz => by
        obtain ⟨x, hx, rfl⟩ := List.mem_map.1 hz
        obtain ⟨hv, q, rfl, hqw⟩ := HWA.out x hx
        obtain ⟨j, _, hjn, hdj⟩ := weld_deed (valid_iff.1 hv) hqw
        simp only [markD, Int.toNat_natCast]
        rw [← hdj]
        have := deedIs ((valid_iff.1 hv).deed j hjn)
        unfold I64
        cases this <;> omega)
      have HOI := Lib.hid (show IntsAt wr.heap.size wr (.slice oA T oc) (WR.map (fun q => (markD C.deeds q).bar)) from ints_of_own (base := w1.heap.size) (by rw [← HALL.out]; have := hown.out; rwa [show ((WR.take T).map (fun q => (markD C.deeds q).bar)).length = T by rw [HALL.out, List.length_map]; exact HTT.out]) HI64.out)
      go_wp2_with fail
      refine (Sorted_to (n := 100) (by rfl) HOI.out (by omega) (by omega) (by omega)).mono ?_
      rintro e w6 ⟨q, rfl, hq, hb6⟩
      have HQ6 := Lib.hid hq
      have HB6 := Lib.hid ((HSR.out.next hb6).b)
      clear hq hb6 c0 c1 c2
      go_wp2
      go_ret2
      exact ⟨q, rfl, HQ6.out, HB6.out⟩

set_option maxRecDepth 100000 in
set_option maxHeartbeats 8000000 in
theorem rSmiths_any (v : Value) (C : Chain) (at_ : Int) (w : World) (hn : C.deeds.length ≤ 40) (hx : ChainAt w.heap.size w v C) :
    Calls Try.prog 30 #[v, .int .i64 at_] w fun e w' => ∃ q, e = .returned (.tuple #[q, .int .i64 (knownE C (placeB C at_))]) ∧ OwnInts w' q (selTo ((whoR C at_).map (fun q => (markD C.deeds q).smith)) 0 100) ∧ Below w.heap.size w w' := by
  obtain ⟨i0, hiT, hz0, hz1, hz2⟩ := info_parts Try_infoInt
  have HWA := Lib.hid (fun x (h : x ∈ whoR C at_) => whoR_at h)
  have hT13 : (whoR C at_).length ≤ 13 := selTo_le _ _ _
  obtain ⟨WR, hWR⟩ : ∃ WR, whoR C at_ = WR := ⟨_, rfl⟩
  obtain ⟨E, hE⟩ : ∃ E, knownE C (placeB C at_) = E := ⟨_, rfl⟩
  obtain ⟨T, hT⟩ : ∃ T, WR.length = T := ⟨_, rfl⟩
  rw [hWR] at HWA hT13
  rw [hT] at hT13
  rw [hWR, hE]
  have HWR := Lib.hid hWR
  have HE := Lib.hid hE
  have HTT := Lib.hid hT
  have HN40 := Lib.hid hn
  clear hWR hE hT
  have hx' := hx
  obtain ⟨a, cap, b, off, a2, cap2, b2, off2, rfl, hm, hm2, hcap, hcapm, HA, HC, HA2, HC2, HI, HI2⟩ := hx.opened
  have HS0 := Lib.hid (LStat.first hx')
  obtain ⟨c0, c1, c2⟩ := HS0.out.cells
  have HDA := Lib.hid (fun h => HA.out h)
  have HDC := HC
  clear hx hx' HA2 HC2 HI HI2
  go_enter Try.func30, Try.ntmps30
  go_wp2_with fail
  refine (rWho_any _ C at_ _ hn HS0.out.st).mono ?_
  rintro e w1 ⟨q, rfl, hq, hb1⟩
  rw [HE.out]
  have hq : OwnInts w1 q WR := HWR.out ▸ hq
  obtain ⟨qA, qc, rfl, _⟩ := own_form hq
  rw [HTT.out] at hq ⊢
  have HQ := Lib.hid hq
  have HS1 := Lib.hid (HS0.out.next hb1)
  clear hq hb1 c0 c1 c2
  obtain ⟨c0, c1, c2⟩ := HS1.out.cells
  go_wp2_with fail
  go_loopw [8, 9] (fun o i wr => ∃ k : Nat, k ≤ T ∧ i = .int .i64 k ∧ Hid (wr.ownsRow w1.heap.size 3 1 o k (((WR.take k).map (fun q => (markD C.deeds q).smith)).map (Value.int .i64))) ∧ Hid (Below w1.heap.size w1 wr)) (fun _ i _ => T - (intOf i).toNat)
  case atStart => exact ⟨0, Nat.zero_le _, rfl, World.ownsRow_nil _ _ _ _, Below.refl _ _⟩
  case round =>
    obtain ⟨k, hk, rfl, hown, hbl⟩ := hrel
    obtain ⟨oA, oc, rfl, _⟩ := own_form hown.out
    clear c0 c1 c2
    have HSR := Lib.hid (HS1.out.next hbl.out)
    obtain ⟨c0, c1, c2⟩ := HSR.out.cells
    by_cases hlt : k < T
    · have hkW : k < WR.length := by rw [HTT.out]; exact hlt
      obtain ⟨hv, q, hqe, hqw⟩ := HWA.out _ (nth_mem hkW)
      have hV' := valid_iff.1 hv
      obtain ⟨j, hj, hjn, hdj⟩ := weld_deed hV' hqw
      obtain ⟨d, hd⟩ : ∃ d, dnth (weldL C.deeds) q = d := ⟨_, rfl⟩
      rw [hd] at hdj
      obtain ⟨rfl, hbw⟩ := HDA.out (by omega)
      have HD0 := Lib.hid (show Five w b (off + j * 5) d.what d.at_ d.from_ d.bar d.smith from by have := HDC.out j hjn; rwa [hdj] at this)
      obtain ⟨lg, lc, hlq, hcell⟩ := (HQ.out.below hbl.out).at hkW
      injection hlq with hq1 hq2 hq3
      clear hq2
      subst hq1 hq3
      rw [hqe] at hcell
      have HJ := Lib.hid hj
      have HQW := Lib.hid hqw
      have hcl := block_lt_of_cell hcell
      have HCE := Lib.hid hcell
      have hk0 : (0 : Int) ≤ (k : Nat) := by omega
      have hk1 : ((k : Nat) : Int) < (T : Int) := by omega
      have hjn0 : (0 : Int) ≤ (j : Nat) := by omega
      have hjn1 : ((j : Nat) : Int) < (C.deeds.length : Int) := by omega
      have HN := Lib.hid (show (WR.take (k + 1)).map (fun q => (markD C.deeds q).smith) = (WR.take k).map (fun q => (markD C.deeds q).smith) ++ [d.smith] by
        rw [map_take_ints hkW, hqe, ← hd]
        simp only [markD, Int.toNat_natCast])
      obtain ⟨Xk, hXk⟩ : ∃ Xk, ((WR.take k).map (fun q => (markD C.deeds q).smith)).map (Value.int .i64) = Xk := ⟨_, rfl⟩
      have HXk := Lib.hid hXk
      have HOW := Lib.hid (show wr.ownsRow w1.heap.size 3 1 (.slice oA k oc) k Xk from hXk ▸ hown.out)
      clear hv hV' hj hdj hd hcell hqe hqw hXk hown hkW
      go_upto_region 6 with fail
      clear c0 c1 c2
      refine wp_region_facts _ 15 [22, 23, 24, 25, 26, 27, 28, 29, 30, 31, 32, 33, 34, 35, 36] [isV (.slice oA k oc), isV (.pointer (some ⟨w.heap.size, 0, none⟩)), isV (.slice (some ⟨b, off, none⟩) C.deeds.length cap), isV (.agg #[.slice (some ⟨b, off, none⟩) C.deeds.length cap, .slice a2 C.sights.length cap2, .int .i64 C.wrong]), ⟨fun v W => OwnInts W v (weldIx C.deeds C.deeds.length), fun _ _ _ h hb => h.below hb⟩, isV (.slice (some ⟨lg, 0, none⟩) T qc), isV (.int .i64 (k : Int)), isV (.pointer (some ⟨lg, k, none⟩)), isV (.int .i64 (q : Int)), ⟨fun v W => ∃ g, v = .pointer (some ⟨g, q, none⟩) ∧ W.cell? ⟨g, q, none⟩ = some (.int .i64 (j : Int)), fun _ _ _ ⟨g, h1, h2⟩ hb => ⟨g, h1, (hb.cell (block_lt_of_cell h2)).trans h2⟩⟩, isV (.int .i64 (j : Int)), isV (.pointer (some ⟨b, off + j * 5, none⟩)), isV (.pointer (some ⟨b, off + j * 5 + 4, none⟩)), isV (.int .i64 d.smith), ⟨fun v W => ∃ A, v = .slice (some ⟨A, 0, none⟩) 1 1 ∧ W.heap[A]? = some (.cells #[.int .i64 d.smith] 3), fun _ _ _ ⟨A, h1, h2⟩ hb => ⟨A, h1, (hb.block A (heap_lt h2)).trans h2⟩⟩] (by kernel_rfl) (by kernel_rfl) (by kernel_rfl) rfl (by decide) (by decide) (by simp) ?step ?rest
      case step =>
        intro i ac W d hi hd hb hoff hdep
        have hs := HSR.out.next hb
        obtain ⟨c0, c1, c2⟩ := hs.cells
        have hcell := (hb.cell hcl).trans HCE.out
        obtain ⟨d0, d1, d2, d3, d4⟩ := HD0.out.below hs.b hbw
        have hi2 : i = 0 ∨ i = 1 ∨ i = 2 ∨ i = 3 ∨ i = 4 ∨ i = 5 ∨ i = 6 ∨ i = 7 ∨ i = 8 ∨ i = 9 ∨ i = 10 ∨ i = 11 ∨ i = 12 ∨ i = 13 ∨ i = 14 := by omega
        rcases hi2 with rfl | rfl | rfl | rfl | rfl | rfl | rfl | rfl | rfl | rfl | rfl | rfl | rfl | rfl | rfl
        · obtain rfl : 22 = d := by simpa using hd
          have q8 : ac.tmps[8]?.getD undef = .slice oA k oc := (eval_tmp _ _).symm.trans <| (hoff 8 (by decide)).trans rfl
          refine fact_value rfl rfl rfl (v := .slice oA k oc) (W' := W) ?_ (Below.refl _ _) rfl
          simp only [execOp]
          go_simp
        · obtain rfl : 23 = d := by simpa using hd
          have q2 : ac.tmps[2]?.getD undef = .pointer (some ⟨w.heap.size, 0, none⟩) := (eval_tmp _ _).symm.trans <| (hoff 2 (by decide)).trans rfl
          refine fact_value rfl rfl rfl (v := .pointer (some ⟨w.heap.size, 0, none⟩)) (W' := W) ?_ (Below.refl _ _) rfl
          simp only [execOp]
          go_simp
        · obtain rfl : 24 = d := by simpa using hd
          have q23 : ac.tmps[23]?.getD undef = .pointer (some ⟨w.heap.size, 0, none⟩) := (eval_tmp _ _).symm.trans (hdep 1 23 rfl rfl)
          refine fact_value rfl rfl rfl (v := .slice (some ⟨b, off, none⟩) C.deeds.length cap) (W' := W) ?_ (Below.refl _ _) rfl
          simp only [execOp]
          go_simp
        · obtain rfl : 25 = d := by simpa using hd
          have q2 : ac.tmps[2]?.getD undef = .pointer (some ⟨w.heap.size, 0, none⟩) := (eval_tmp _ _).symm.trans <| (hoff 2 (by decide)).trans rfl
          refine fact_value rfl rfl rfl (v := .agg #[.slice (some ⟨b, off, none⟩) C.deeds.length cap, .slice a2 C.sights.length cap2, .int .i64 C.wrong]) (W' := W) ?_ (Below.refl _ _) rfl
          simp only [execOp]
          go_simp
        · obtain rfl : 26 = d := by simpa using hd
          have q25 : ac.tmps[25]?.getD undef = .agg #[.slice (some ⟨b, off, none⟩) C.deeds.length cap, .slice a2 C.sights.length cap2, .int .i64 C.wrong] := (eval_tmp _ _).symm.trans (hdep 3 25 rfl rfl)
          refine fact_call rfl rfl rfl (f := 54) (args := #[.agg #[.slice (some ⟨b, off, none⟩) C.deeds.length cap, .slice a2 C.sights.length cap2, .int .i64 C.wrong]]) ?_ ?_
          · simp only [execOp]
            go_simp
          · refine (Welds_o _ C W HN40.out hs.st).mono ?_
            rintro e W' ⟨q, rfl, hls, hbk⟩
            exact ⟨q, rfl, hbk, hls⟩
        · obtain rfl : 27 = d := by simpa using hd
          have q6 : ac.tmps[6]?.getD undef = .slice (some ⟨lg, 0, none⟩) T qc := (eval_tmp _ _).symm.trans <| (hoff 6 (by decide)).trans rfl
          refine fact_value rfl rfl rfl (v := .slice (some ⟨lg, 0, none⟩) T qc) (W' := W) ?_ (Below.refl _ _) rfl
          simp only [execOp]
          go_simp
        · obtain rfl : 28 = d := by simpa using hd
          have q9 : ac.tmps[9]?.getD undef = .int .i64 (k : Int) := (eval_tmp _ _).symm.trans <| (hoff 9 (by decide)).trans rfl
          refine fact_value rfl rfl rfl (v := .int .i64 (k : Int)) (W' := W) ?_ (Below.refl _ _) rfl
          simp only [execOp]
          go_simp
        · obtain rfl : 29 = d := by simpa using hd
          have q27 : ac.tmps[27]?.getD undef = .slice (some ⟨lg, 0, none⟩) T qc := (eval_tmp _ _).symm.trans (hdep 5 27 rfl rfl)
          have q28 : ac.tmps[28]?.getD undef = .int .i64 (k : Int) := (eval_tmp _ _).symm.trans (hdep 6 28 rfl rfl)
          refine fact_value rfl rfl rfl (v := .pointer (some ⟨lg, k, none⟩)) (W' := W) ?_ (Below.refl _ _) rfl
          simp only [execOp]
          go_simp
        · obtain rfl : 30 = d := by simpa using hd
          have q29 : ac.tmps[29]?.getD undef = .pointer (some ⟨lg, k, none⟩) := (eval_tmp _ _).symm.trans (hdep 7 29 rfl rfl)
          refine fact_value rfl rfl rfl (v := .int .i64 (q : Int)) (W' := W) ?_ (Below.refl _ _) rfl
          simp only [execOp]
          go_simp
        · obtain rfl : 31 = d := by simpa using hd
          have q26 : OwnInts W (ac.tmps[26]?.getD undef) (weldIx C.deeds C.deeds.length) := eval_tmp ac _ ▸ hdep 4 26 rfl rfl
          have q30 : ac.tmps[30]?.getD undef = .int .i64 (q : Int) := (eval_tmp _ _).symm.trans (hdep 8 30 rfl rfl)
          obtain ⟨g, c, hq, hcell⟩ := q26.at ((show q < (weldIx C.deeds C.deeds.length).length by rw [weldIx_len]; exact HQW.out))
          rw [HJ.out] at hcell
          have i1 : (0 : Int) ≤ (q : Nat) := by omega
          have i2 : ((q : Nat) : Int) < ((weldIx C.deeds C.deeds.length).length : Int) := by have := (show q < (weldIx C.deeds C.deeds.length).length by rw [weldIx_len]; exact HQW.out); omega
          refine fact_value rfl rfl rfl (v := .pointer (some ⟨g, q, none⟩)) (W' := W) ?_ (Below.refl _ _) ⟨g, rfl, hcell⟩
          simp only [execOp]
          go_simp
        · obtain rfl : 32 = d := by simpa using hd
          have q31 : ∃ g, (ac.tmps[31]?.getD undef) = .pointer (some ⟨g, q, none⟩) ∧ W.cell? ⟨g, q, none⟩ = some (.int .i64 (j : Int)) := eval_tmp ac _ ▸ hdep 9 31 rfl rfl
          obtain ⟨g, hq, hcell⟩ := q31
          refine fact_value rfl rfl rfl (v := .int .i64 (j : Int)) (W' := W) ?_ (Below.refl _ _) rfl
          simp only [execOp]
          go_simp
        · obtain rfl : 33 = d := by simpa using hd
          have q24 : ac.tmps[24]?.getD undef = .slice (some ⟨b, off, none⟩) C.deeds.length cap := (eval_tmp _ _).symm.trans (hdep 2 24 rfl rfl)
          have q32 : ac.tmps[32]?.getD undef = .int .i64 (j : Int) := (eval_tmp _ _).symm.trans (hdep 10 32 rfl rfl)
          refine fact_value rfl rfl rfl (v := .pointer (some ⟨b, off + j * 5, none⟩)) (W' := W) ?_ (Below.refl _ _) rfl
          simp only [execOp]
          go_simp
        · obtain rfl : 34 = d := by simpa using hd
          have q33 : ac.tmps[33]?.getD undef = .pointer (some ⟨b, off + j * 5, none⟩) := (eval_tmp _ _).symm.trans (hdep 11 33 rfl rfl)
          refine fact_value rfl rfl rfl (v := .pointer (some ⟨b, off + j * 5 + 4, none⟩)) (W' := W) ?_ (Below.refl _ _) rfl
          simp only [execOp]
          go_simp
        · obtain rfl : 35 = d := by simpa using hd
          have q34 : ac.tmps[34]?.getD undef = .pointer (some ⟨b, off + j * 5 + 4, none⟩) := (eval_tmp _ _).symm.trans (hdep 12 34 rfl rfl)
          refine fact_value rfl rfl rfl (v := .int .i64 d.smith) (W' := W) ?_ (Below.refl _ _) rfl
          simp only [execOp]
          go_simp
        · obtain rfl : 36 = d := by simpa using hd
          have q35 : ac.tmps[35]?.getD undef = .int .i64 d.smith := (eval_tmp _ _).symm.trans (hdep 13 35 rfl rfl)
          refine fact_value rfl rfl rfl (v := .slice (some ⟨W.heap.size, 0, none⟩) 1 1) (W' := W.alloc (.cells #[.int .i64 d.smith] 3)) ?_ ((Below.refl _ _).alloc (Nat.le_refl _) _) ⟨_, rfl, heap_new _ _⟩
          simp only [execOp]
          go_simp
      case rest =>
        intro vs W2 hvl hbx hval
        obtain ⟨z0, z1, z2, z3, z4, z5, z6, z7, z8, z9, z10, z11, z12, z13, z14, rfl⟩ : ∃ z0 z1 z2 z3 z4 z5 z6 z7 z8 z9 z10 z11 z12 z13 z14, vs = [z0, z1, z2, z3, z4, z5, z6, z7, z8, z9, z10, z11, z12, z13, z14] := by
          match vs, hvl with
          | [z0, z1, z2, z3, z4, z5, z6, z7, z8, z9, z10, z11, z12, z13, z14], _ => exact ⟨z0, z1, z2, z3, z4, z5, z6, z7, z8, z9, z10, z11, z12, z13, z14, rfl⟩
        obtain rfl : z0 = .slice oA k oc := by obtain ⟨u, e, h⟩ := hval 0 (by omega); have e2 : some z0 = some u := e; injection e2 with e2; subst e2; exact h
        obtain rfl : z1 = .pointer (some ⟨w.heap.size, 0, none⟩) := by obtain ⟨u, e, h⟩ := hval 1 (by omega); have e2 : some z1 = some u := e; injection e2 with e2; subst e2; exact h
        obtain rfl : z2 = .slice (some ⟨b, off, none⟩) C.deeds.length cap := by obtain ⟨u, e, h⟩ := hval 2 (by omega); have e2 : some z2 = some u := e; injection e2 with e2; subst e2; exact h
        obtain rfl : z3 = .agg #[.slice (some ⟨b, off, none⟩) C.deeds.length cap, .slice a2 C.sights.length cap2, .int .i64 C.wrong] := by obtain ⟨u, e, h⟩ := hval 3 (by omega); have e2 : some z3 = some u := e; injection e2 with e2; subst e2; exact h
        have k4 : OwnInts W2 z4 (weldIx C.deeds C.deeds.length) := by obtain ⟨u, e, h⟩ := hval 4 (by omega); have e2 : some z4 = some u := e; injection e2 with e2; subst e2; exact h
        obtain rfl : z5 = .slice (some ⟨lg, 0, none⟩) T qc := by obtain ⟨u, e, h⟩ := hval 5 (by omega); have e2 : some z5 = some u := e; injection e2 with e2; subst e2; exact h
        obtain rfl : z6 = .int .i64 (k : Int) := by obtain ⟨u, e, h⟩ := hval 6 (by omega); have e2 : some z6 = some u := e; injection e2 with e2; subst e2; exact h
        obtain rfl : z7 = .pointer (some ⟨lg, k, none⟩) := by obtain ⟨u, e, h⟩ := hval 7 (by omega); have e2 : some z7 = some u := e; injection e2 with e2; subst e2; exact h
        obtain rfl : z8 = .int .i64 (q : Int) := by obtain ⟨u, e, h⟩ := hval 8 (by omega); have e2 : some z8 = some u := e; injection e2 with e2; subst e2; exact h
        have k9 : ∃ g, z9 = .pointer (some ⟨g, q, none⟩) ∧ W2.cell? ⟨g, q, none⟩ = some (.int .i64 (j : Int)) := by obtain ⟨u, e, h⟩ := hval 9 (by omega); have e2 : some z9 = some u := e; injection e2 with e2; subst e2; exact h
        obtain rfl : z10 = .int .i64 (j : Int) := by obtain ⟨u, e, h⟩ := hval 10 (by omega); have e2 : some z10 = some u := e; injection e2 with e2; subst e2; exact h
        obtain rfl : z11 = .pointer (some ⟨b, off + j * 5, none⟩) := by obtain ⟨u, e, h⟩ := hval 11 (by omega); have e2 : some z11 = some u := e; injection e2 with e2; subst e2; exact h
        obtain rfl : z12 = .pointer (some ⟨b, off + j * 5 + 4, none⟩) := by obtain ⟨u, e, h⟩ := hval 12 (by omega); have e2 : some z12 = some u := e; injection e2 with e2; subst e2; exact h
        obtain rfl : z13 = .int .i64 d.smith := by obtain ⟨u, e, h⟩ := hval 13 (by omega); have e2 : some z13 = some u := e; injection e2 with e2; subst e2; exact h
        have k14 : ∃ A, z14 = .slice (some ⟨A, 0, none⟩) 1 1 ∧ W2.heap[A]? = some (.cells #[.int .i64 d.smith] 3) := by obtain ⟨u, e, h⟩ := hval 14 (by omega); have e2 : some z14 = some u := e; injection e2 with e2; subst e2; exact h
        clear hval hvl
        obtain ⟨A, rfl, hA⟩ := k14
        have HAA := Lib.hid hA
        have HBX := Lib.hid hbx
        have hsr := hbl.out.size
        have hsx := hbx.size
        clear k4 k9 hA hbx
        simp only [putL, Act.put, List.drop, List.setIfInBounds_toArray, List.set_cons_zero, List.set_cons_succ]
        go_wp2_with (at_builtin; refine wpList_append_own _ rfl (.tmp 22) (.tmp 36) 33 rfl w1.heap.size 3 i0 (.int .i64 0) 1 8 Try.underlying33 hiT hz0 hz1 hz2 rfl (by decide) (.slice oA k oc) k _ rfl (own_below HOW.out HBX.out) ⟨A, 0, none⟩ 1 1 [.int .i64 d.smith] rfl rfl ?f1 ?f2 ?f3 ?f4 ?f5 ?_)
        case f1 => exact fun j u hj => by have h1 := World.news_of_block (fr := (0, 0)) HAA.out j u hj; rwa [add_plain0, Nat.zero_add] at h1
        case f2 => simp [Value.oneCell']
        case f3 => unfold maxLen; omega
        case f4 => omega
        case f5 => omega
        intro v' w5 hown' hgrow _
        have HO := Lib.hid hown'
        have HF := Lib.hid ((hbl.out.trans (HBX.out.mono hsr)).grown hgrow (by omega) (fun j e => (HOW.out.lt j e).1))
        clear hown' hgrow
        go_wp2
        exact ⟨⟨k + 1, by omega, by go_num, by rw [HN.out, List.map_append, HXk.out]; exact HO.out, HF.out⟩, by simp [intOf]; omega⟩
    · obtain rfl : T = k := by omega
      have HALL := Lib.hid (show (WR.take T).map (fun q => (markD C.deeds q).smith) = WR.map (fun q => (markD C.deeds q).smith) by rw [List.take_of_length_le (by rw [HTT.out]; exact Nat.le_refl _)])
      have HI64 := Lib.hid (show ∀ z ∈ WR.map (fun q => (markD C.deeds q).smith), I64 z from fun z hz => by
        obtain ⟨x, hx, rfl⟩ := List.mem_map.1 hz
        obtain ⟨hv, q, rfl, hqw⟩ := HWA.out x hx
        obtain ⟨j, _, hjn, hdj⟩ := weld_deed (valid_iff.1 hv) hqw
        simp only [markD, Int.toNat_natCast]
        rw [← hdj]
        have := deedIs ((valid_iff.1 hv).deed j hjn)
        unfold I64
        cases this <;> omega)
      have HOI := Lib.hid (show IntsAt wr.heap.size wr (.slice oA T oc) (WR.map (fun q => (markD C.deeds q).smith)) from ints_of_own (base := w1.heap.size) (by rw [← HALL.out]; have := hown.out; rwa [show ((WR.take T).map (fun q => (markD C.deeds q).smith)).length = T by rw [HALL.out, List.length_map]; exact HTT.out]) HI64.out)
      go_wp2_with fail
      refine (Sorted_to (n := 100) (by rfl) HOI.out (by omega) (by omega) (by omega)).mono ?_
      rintro e w6 ⟨q, rfl, hq, hb6⟩
      have HQ6 := Lib.hid hq
      have HB6 := Lib.hid ((HSR.out.next hb6).b)
      clear hq hb6 c0 c1 c2
      go_wp2
      go_ret2
      exact ⟨q, rfl, HQ6.out, HB6.out⟩

end Go.Proofs.Ytgjikoebneiamaa
