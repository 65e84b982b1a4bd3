/-
  Links, the law's reference: whether a sight is right, and the bar of the link at a place.
-/
import Derived.Test.YtgjikoebneiamaaLNow

namespace Go.Proofs.Ytgjikoebneiamaa
open Go.RowKit Go.Shelf

theorem OwnInts.at {w : World} {v : Value} {xs : List Int} (h : OwnInts w v xs) {i : Nat} (hi : i < xs.length) : ∃ g c, v = .slice (some ⟨g, 0, none⟩) xs.length c ∧ w.cell? ⟨g, i, none⟩ = some (.int .i64 (nth xs i)) := by
  obtain ⟨A, c, rfl, _⟩ := own_form h
  have h2 := h
  rcases h2.2 with ⟨_, h0⟩ | ⟨g, cap, cur, e, _⟩
  · omega
  · injection e with e1 _ e3
    subst e1
    refine ⟨g, c, rfl, ?_⟩
    rw [h.cellAt i (by simpa using hi)]
    simp [nth_lt hi, hi]
theorem Welds_o (v : Value) (C : Chain) (w : World) (hn : C.deeds.length ≤ 40) (hx : ChainAt w.heap.size w v C) :
    Calls Try.prog 54 #[v] w fun e w' => ∃ q, e = .returned q ∧ OwnInts w' q (weldIx C.deeds C.deeds.length) ∧ Below w.heap.size w w' := by
  refine (Welds_any v C w hn hx).mono ?_
  rintro e w' ⟨A, c, rfl, h, hb⟩
  refine ⟨_, rfl, ?_, hb⟩
  unfold OwnInts
  rw [weldIx_len]
  exact own_grow0 (W := w') h (Nat.zero_le _)
/-- The deed of a link. -/
theorem weld_deed {C : Chain} (_hV : Valid C) {q : Nat} (hq : q < weldsTo C.deeds C.deeds.length) :
    ∃ j : Nat, nth (weldIx C.deeds C.deeds.length) q = j ∧ j < C.deeds.length ∧ dnth C.deeds j = dnth (weldL C.deeds) q := by
  have hl := weldIx_len C.deeds C.deeds.length
  have h := weldIx_le C.deeds C.deeds.length _ (nth_mem (xs := weldIx C.deeds C.deeds.length) (i := q) (by omega))
  have hw := weldIx_weld C.deeds C.deeds.length (Nat.le_refl _) q hq
  refine ⟨(nth (weldIx C.deeds C.deeds.length) q).toNat, by omega, by omega, hw⟩
theorem box5j {w : World} {b : Nat} {v0 v1 v2 v3 v4 : Value} {t : TypeId} (e : w.heap[b]? = some (.cells #[v0, v1, v2, v3, v4] t)) :
    w.cell? ⟨b, 0, none⟩ = some v0 ∧ w.cell? ⟨b, 1, none⟩ = some v1 ∧ w.cell? ⟨b, 2, none⟩ = some v2 ∧ w.cell? ⟨b, 3, none⟩ = some v3 ∧ w.cell? ⟨b, 4, none⟩ = some v4 := by
  refine ⟨?_, ?_, ?_, ?_, ?_⟩ <;> simp [World.cell?, e]
def put5 (w : World) (b : Nat) (v0 v1 v2 v3 v4 : Value) : World := ((((w.setCell ⟨b, 0, none⟩ v0).setCell ⟨b, 1, none⟩ v1).setCell ⟨b, 2, none⟩ v2).setCell ⟨b, 3, none⟩ v3).setCell ⟨b, 4, none⟩ v4
theorem put5_heap {w : World} {b : Nat} {v0 v1 v2 v3 v4 z0 z1 z2 z3 z4 : Value} {t : TypeId} (h : w.heap[b]? = some (.cells #[z0, z1, z2, z3, z4] t)) : (put5 w b v0 v1 v2 v3 v4).heap[b]? = some (.cells #[v0, v1, v2, v3, v4] t) := by
  unfold put5
  rw [heap_setCell_same (heap_setCell_same (heap_setCell_same (heap_setCell_same (heap_setCell_same h))))]
  rfl
theorem put5_below {B : Nat} {w W : World} {b : Nat} {v0 v1 v2 v3 v4 : Value} (h : Below B w W) (hb : B ≤ b) : Below B w (put5 W b v0 v1 v2 v3 v4) := below_setCell (below_setCell (below_setCell (below_setCell (below_setCell h hb) hb) hb) hb) hb
theorem box5f_of {w : World} {b : Nat} {v0 v1 v2 v3 v4 : Value} {t : TypeId} (e : w.heap[b]? = some (.cells #[v0, v1, v2, v3, v4] t)) :
    (w.cell? ⟨b, 0, none⟩ = some v0 ∧ w.cell? ⟨b, 1, none⟩ = some v1 ∧ w.cell? ⟨b, 2, none⟩ = some v2 ∧ w.cell? ⟨b, 3, none⟩ = some v3 ∧ w.cell? ⟨b, 4, none⟩ = some v4) ∧ ∀ i, w.frozen? ⟨b, i, none⟩ = false := by
  refine ⟨⟨?_, ?_, ?_, ?_, ?_⟩, fun i => ?_⟩ <;> simp [World.cell?, World.frozen?, e]

set_option maxRecDepth 100000 in
set_option maxHeartbeats 8000000 in
theorem Right_any (v u : Value) (C : Chain) (s : Sight) (ends : List Int) (w : World) (hV : validB C = true) (hl : ends.length = C.deeds.length) (hsr : sightAll C.deeds s = true) (hx : ChainAt w.heap.size w v C) (hu : IntsAt w.heap.size w u ends) :
    Calls Try.prog 97 #[v, sV s, u] w fun e w' => e = .returned (.bool (rightB C.deeds ends s)) ∧ Below w.heap.size w w' := by
  have hx' := hx
  obtain ⟨a, cap, b, off, a2, cap2, b2, off2, rfl, hm, hm2, hcap, hcapm, HA, HC, HA2, HC2, HI, HI2⟩ := hx.opened
  have hu' := hu
  obtain ⟨ua, ucap, ub, uoff, rfl, hum, HUA, HUC, HUI⟩ := hu.opened
  have hV' := valid_iff.1 hV
  have hnd := hV'.nd
  obtain ⟨sa, sb, sc, sd, se, sf, sg, sh, si, sj⟩ := sightIs hsr
  obtain ⟨k, hk⟩ : ∃ k : Nat, s.after = k := ⟨s.after.toNat, by omega⟩
  have hkn : k ≤ C.deeds.length := by omega
  have hlen := (story_ok (ends := ends) hV'.deed k hkn).1
  have hll := lenTo_le C.deeds k
  have hkk : s.after.toNat = k := by omega
  rw [hkk] at sd
  have hfh := fromHead_lt (a := s.at_) (f := s.from_) (n := (story C.deeds ends k).length) sc (by omega)
  obtain ⟨p, hpe⟩ : ∃ p : Nat, fromHead s.at_ s.from_ (story C.deeds ends k).length = p := ⟨_, (Int.toNat_of_nonneg hfh.1).symm⟩
  have hpl : p < (story C.deeds ends k).length := by omega
  obtain ⟨q, hq, hqw⟩ := story_link hV' ends hkn hpl
  obtain ⟨j, hj, hjn, hdj⟩ := weld_deed hV' hqw
  have hw12 := weldsTo_le C.deeds C.deeds.length
  obtain ⟨d, hd⟩ : ∃ d, dnth (weldL C.deeds) q = d := ⟨_, rfl⟩
  have hr : rightB C.deeds ends s = ((decide (s.bar < 0) || decide (s.bar = d.bar)) && (decide (s.smith < 0) || decide (s.smith = d.smith))) := by
    simp only [rightB, hkk, hpe, Int.toNat_natCast, hq, markD, hd]
  have HR := Lib.hid hr
  rw [hd] at hdj
  obtain ⟨M, hM⟩ : ∃ M, (story C.deeds ends k).length = M := ⟨_, rfl⟩
  rw [hM] at hlen hpl hpe hfh
  have hM12 : M ≤ 12 := by omega
  have hI : I64 (fromHead s.at_ s.from_ M) := by rw [hpe]; unfold I64; omega
  have HFH := Lib.hid (fun w => hpe ▸ place_any s.at_ s.from_ M w hI (by omega) (by omega))
  have HS0 := Lib.hid ((LStat.first hx').next ((Below.refl _ _).alloc (Nat.le_refl _) (.cells #[.int .i64 s.after, .int .i64 s.at_, .int .i64 s.from_, .int .i64 s.bar, .int .i64 s.smith] 60)))
  have HT0 := Lib.hid (heap_new1 w (.cells #[.slice a C.deeds.length cap, .slice a2 C.sights.length cap2, .int .i64 C.wrong] 25) (.cells #[.int .i64 s.after, .int .i64 s.at_, .int .i64 s.from_, .int .i64 s.bar, .int .i64 s.smith] 60))
  have HU := Lib.hid hu'
  have HL := Lib.hid hl
  have HV := Lib.hid hV
  have HV' := Lib.hid hV'
  have HN40 := Lib.hid (show C.deeds.length ≤ 40 by omega)
  obtain ⟨rfl, hbw⟩ := HA.out (by omega)
  have HD0 := Lib.hid (show Five w b (off + j * 5) d.what d.at_ d.from_ d.bar d.smith from by have := HC.out j hjn; rwa [hdj] at this)
  have HQ := Lib.hid hq
  have HJ := Lib.hid hj
  have HPL := Lib.hid hpl
  have HQW := Lib.hid hqw
  have HM := Lib.hid hM
  have hjn0 : (0 : Int) ≤ (j : Nat) := by omega
  have hjn1 : ((j : Nat) : Int) < (C.deeds.length : Int) := by omega
  have hpn0 : (0 : Int) ≤ (p : Nat) := by omega
  have hpn1 : ((p : Nat) : Int) < (M : Int) := by omega
  clear hx hx' HA2 HC2 HI HI2 hu hu' hV hV' hl HA HC HUA HUC HUI hr hfh hpe hI hlen hq hj hdj hd hM sa sb sc sd se sf sg sh si sj hsr hkk
  unfold sV
  rw [hk] at HS0 HT0 ⊢
  go_enter Try.func97, Try.ntmps97
  go_upto_region 1 with fail
  obtain ⟨W0, hW0⟩ : ∃ W0, W0 = (w.alloc (.cells #[.slice (some ⟨b, off, none⟩) C.deeds.length cap, .slice a2 C.sights.length cap2, .int .i64 C.wrong] 25)).alloc (.cells #[.int .i64 k, .int .i64 s.at_, .int .i64 s.from_, .int .i64 s.bar, .int .i64 s.smith] 60) := ⟨_, rfl⟩
  have hsz0 : W0.heap.size = w.heap.size + 2 := by rw [hW0]; simp
  rw [← hW0] at HS0 HT0 ⊢
  clear hW0
  refine wp_region_facts _ 8 [9, 10, 11, 12, 13, 14, 15, 7] [isV (.agg #[.slice (some ⟨b, off, none⟩) C.deeds.length cap, .slice a2 C.sights.length cap2, .int .i64 C.wrong]), isV (.slice ua ends.length ucap), ⟨fun v W => ListsAt W 0 v (storiesTo C.deeds ends C.deeds.length), fun _ _ _ h hb => h.below hb⟩, isV (.pointer (some ⟨w.heap.size + 1, 0, none⟩)), isV (.int .i64 (k : Int)), ⟨fun v W => ∃ g x, v = .pointer (some ⟨g, k, none⟩) ∧ W.cell? ⟨g, k, none⟩ = some x ∧ OwnInts W x (story C.deeds ends k), fun _ _ _ ⟨g, x, h1, h2, h3⟩ hb => ⟨g, x, h1, (hb.cell (block_lt_of_cell h2)).trans h2, h3.below hb⟩⟩, ⟨fun v W => OwnInts W v (story C.deeds ends k), fun _ _ _ h hb => h.below hb⟩, ⟨fun v W => OwnInts W v (story C.deeds ends k), fun _ _ _ h hb => h.below hb⟩] (by kernel_rfl) (by kernel_rfl) (by kernel_rfl) rfl (by decide) (by decide) (by simp) ?step ?rest
  case step =>
    intro i ac W d hi hd hb hoff hdep
    have hs := HS0.out.next hb
    obtain ⟨c0, c1, c2⟩ := hs.cells
    have ht := (hb.block _ (heap_lt HT0.out)).trans HT0.out
    obtain ⟨s0, s1, s2, s3, s4⟩ := box5j ht
    have hi2 : i = 0 ∨ i = 1 ∨ i = 2 ∨ i = 3 ∨ i = 4 ∨ i = 5 ∨ i = 6 ∨ i = 7 := by omega
    rcases hi2 with rfl | rfl | rfl | rfl | rfl | rfl | rfl | rfl
    · obtain rfl : 9 = d := by simpa using hd
      have q3 : ac.tmps[3]?.getD undef = .pointer (some ⟨w.heap.size, 0, none⟩) := (eval_tmp _ _).symm.trans <| (hoff 3 (by decide)).trans rfl
      refine fact_value rfl rfl rfl (v := .agg #[.slice (some ⟨b, off, none⟩) C.deeds.length cap, .slice a2 C.sights.length cap2, .int .i64 C.wrong]) (W' := W) ?_ (Below.refl _ _) rfl
      simp only [execOp]
      go_simp
    · obtain rfl : 10 = d := by simpa using hd
      have q2 : ac.tmps[2]?.getD undef = .slice ua ends.length ucap := (eval_tmp _ _).symm.trans <| (hoff 2 (by decide)).trans rfl
      refine fact_value rfl rfl rfl (v := .slice ua ends.length ucap) (W' := W) ?_ (Below.refl _ _) rfl
      simp only [execOp]
      go_simp
    · obtain rfl : 11 = d := by simpa using hd
      have q9 : ac.tmps[9]?.getD undef = .agg #[.slice (some ⟨b, off, none⟩) C.deeds.length cap, .slice a2 C.sights.length cap2, .int .i64 C.wrong] := (eval_tmp _ _).symm.trans (hdep 0 9 rfl rfl)
      have q10 : ac.tmps[10]?.getD undef = .slice ua ends.length ucap := (eval_tmp _ _).symm.trans (hdep 1 10 rfl rfl)
      refine fact_call rfl rfl rfl (f := 96) (args := #[.agg #[.slice (some ⟨b, off, none⟩) C.deeds.length cap, .slice a2 C.sights.length cap2, .int .i64 C.wrong], .slice ua ends.length ucap]) ?_ ?_
      · simp only [execOp]
        go_simp
      · refine (Story_any _ _ C ends W HV.out HL.out hs.st ((HU.out.below hs.b).mono hs.b.size)).mono ?_
        rintro e W' ⟨q, rfl, hls, hbk⟩
        exact ⟨q, rfl, hbk, hls.lower (Nat.zero_le _)⟩
    · obtain rfl : 12 = d := by simpa using hd
      have q4 : ac.tmps[4]?.getD undef = .pointer (some ⟨w.heap.size + 1, 0, none⟩) := (eval_tmp _ _).symm.trans <| (hoff 4 (by decide)).trans rfl
      refine fact_value rfl rfl rfl (v := .pointer (some ⟨w.heap.size + 1, 0, none⟩)) (W' := W) ?_ (Below.refl _ _) rfl
      simp only [execOp]
      go_simp
    · obtain rfl : 13 = d := by simpa using hd
      have q12 : ac.tmps[12]?.getD undef = .pointer (some ⟨w.heap.size + 1, 0, none⟩) := (eval_tmp _ _).symm.trans (hdep 3 12 rfl rfl)
      refine fact_value rfl rfl rfl (v := .int .i64 (k : Int)) (W' := W) ?_ (Below.refl _ _) rfl
      simp only [execOp]
      go_simp
    · obtain rfl : 14 = d := by simpa using hd
      have q11 : ListsAt W 0 (ac.tmps[11]?.getD undef) (storiesTo C.deeds ends C.deeds.length) := eval_tmp ac _ ▸ hdep 2 11 rfl rfl
      have q13 : ac.tmps[13]?.getD undef = .int .i64 (k : Int) := (eval_tmp _ _).symm.trans (hdep 4 13 rfl rfl)
      obtain ⟨g, c, x, hq, hcell, hown⟩ := q11.get (i := k) (by rw [storiesTo_len]; omega)
      rw [storiesTo_nth _ _ (hkn)] at hown
      rw [storiesTo_len] at hq
      have i1 : (0 : Int) ≤ (k : Nat) := by omega
      have i2 : ((k : Nat) : Int) < (C.deeds.length : Int) + 1 := by omega
      refine fact_value rfl rfl rfl (v := .pointer (some ⟨g, k, none⟩)) (W' := W) ?_ (Below.refl _ _) ⟨g, x, rfl, hcell, hown⟩
      simp only [execOp]
      go_simp
    · obtain rfl : 15 = d := by simpa using hd
      have q14 : ∃ g x, (ac.tmps[14]?.getD undef) = .pointer (some ⟨g, k, none⟩) ∧ W.cell? ⟨g, k, none⟩ = some x ∧ OwnInts W x (story C.deeds ends k) := eval_tmp ac _ ▸ hdep 5 14 rfl rfl
      obtain ⟨g, x, hq, hcell, hown⟩ := q14
      refine fact_value rfl rfl rfl (v := x) (W' := W) ?_ (Below.refl _ _) hown
      simp only [execOp]
      go_simp
    · obtain rfl : 7 = d := by simpa using hd
      have q15 : OwnInts W (ac.tmps[15]?.getD undef) (story C.deeds ends k) := eval_tmp ac _ ▸ hdep 6 15 rfl rfl
      refine fact_value rfl rfl rfl (v := _) (W' := W) ?_ (Below.refl _ _) q15
      simp only [execOp]
      go_simp
  case rest =>
    intro vs W1 hvl hb1 hval
    obtain ⟨r0, r1, r2, r3, r4, r5, r6, r7, rfl⟩ : ∃ r0 r1 r2 r3 r4 r5 r6 r7, vs = [r0, r1, r2, r3, r4, r5, r6, r7] := by
      match vs, hvl with
      | [r0, r1, r2, r3, r4, r5, r6, r7], _ => exact ⟨r0, r1, r2, r3, r4, r5, r6, r7, rfl⟩
    obtain rfl : r0 = .agg #[.slice (some ⟨b, off, none⟩) C.deeds.length cap, .slice a2 C.sights.length cap2, .int .i64 C.wrong] := by obtain ⟨u, e, h⟩ := hval 0 (by omega); have e2 : some r0 = some u := e; injection e2 with e2; subst e2; exact h
    obtain rfl : r1 = .slice ua ends.length ucap := by obtain ⟨u, e, h⟩ := hval 1 (by omega); have e2 : some r1 = some u := e; injection e2 with e2; subst e2; exact h
    have k2 : ListsAt W1 0 r2 (storiesTo C.deeds ends C.deeds.length) := by obtain ⟨u, e, h⟩ := hval 2 (by omega); have e2 : some r2 = some u := e; injection e2 with e2; subst e2; exact h
    obtain rfl : r3 = .pointer (some ⟨w.heap.size + 1, 0, none⟩) := by obtain ⟨u, e, h⟩ := hval 3 (by omega); have e2 : some r3 = some u := e; injection e2 with e2; subst e2; exact h
    obtain rfl : r4 = .int .i64 (k : Int) := by obtain ⟨u, e, h⟩ := hval 4 (by omega); have e2 : some r4 = some u := e; injection e2 with e2; subst e2; exact h
    have k5 : ∃ g x, r5 = .pointer (some ⟨g, k, none⟩) ∧ W1.cell? ⟨g, k, none⟩ = some x ∧ OwnInts W1 x (story C.deeds ends k) := by obtain ⟨u, e, h⟩ := hval 5 (by omega); have e2 : some r5 = some u := e; injection e2 with e2; subst e2; exact h
    have k6 : OwnInts W1 r6 (story C.deeds ends k) := by obtain ⟨u, e, h⟩ := hval 6 (by omega); have e2 : some r6 = some u := e; injection e2 with e2; subst e2; exact h
    have k7 : OwnInts W1 r7 (story C.deeds ends k) := by obtain ⟨u, e, h⟩ := hval 7 (by omega); have e2 : some r7 = some u := e; injection e2 with e2; subst e2; exact h
    clear hval hvl
    obtain ⟨g, c, rfl, hgc⟩ := k7.at (i := p) (by rw [HM.out]; omega)
    rw [HM.out, HQ.out] at *
    have HS1 := Lib.hid (HS0.out.next hb1)
    have HT1 := Lib.hid ((hb1.block _ (heap_lt HT0.out)).trans HT0.out)
    have HK1 := Lib.hid k7
    have hsz1 := hb1.size
    have hgl : g < W1.heap.size := block_lt_of_cell hgc
    have HGC := Lib.hid hgc
    clear k2 k5 k6 k7 hb1 hgc
    simp only [putL, Act.put, List.drop, List.setIfInBounds_toArray, List.set_cons_zero, List.set_cons_succ]
    go_upto_region 2 with fail
    refine wp_region_facts _ 19 [16, 17, 18, 19, 20, 21, 22, 23, 24, 25, 26, 27, 28, 29, 30, 31, 32, 33, 8] [isV (.pointer (some ⟨w.heap.size, 0, none⟩)), isV (.slice (some ⟨b, off, none⟩) C.deeds.length cap), isV (.agg #[.slice (some ⟨b, off, none⟩) C.deeds.length cap, .slice a2 C.sights.length cap2, .int .i64 C.wrong]), ⟨fun v W => OwnInts W v (weldIx C.deeds C.deeds.length), fun _ _ _ h hb => h.below hb⟩, isV (.slice (some ⟨g, 0, none⟩) M c), isV (.pointer (some ⟨w.heap.size + 1, 1, none⟩)), isV (.int .i64 s.at_), isV (.pointer (some ⟨w.heap.size + 1, 2, none⟩)), isV (.int .i64 s.from_), isV (.slice (some ⟨g, 0, none⟩) M c), isV (.int .i64 (M : Int)), isV (.int .i64 (p : Int)), isV (.pointer (some ⟨g, p, none⟩)), isV (.int .i64 (q : Int)), ⟨fun v W => ∃ g, v = .pointer (some ⟨g, q, none⟩) ∧ W.cell? ⟨g, q, none⟩ = some (.int .i64 (j : Int)), fun _ _ _ ⟨g, h1, h2⟩ hb => ⟨g, h1, (hb.cell (block_lt_of_cell h2)).trans h2⟩⟩, isV (.int .i64 (j : Int)), isV (.pointer (some ⟨b, off + j * 5, none⟩)), isV (.agg #[.int .i64 d.what, .int .i64 d.at_, .int .i64 d.from_, .int .i64 d.bar, .int .i64 d.smith]), ⟨fun v W => ∃ m, v = .pointer (some ⟨m, 0, none⟩) ∧ w.heap.size + 2 ≤ m ∧ W.heap[m]? = some (.cells #[.int .i64 0, .int .i64 0, .int .i64 0, .int .i64 0, .int .i64 0] 55), fun _ _ _ ⟨m, h1, h2, h3⟩ hb => ⟨m, h1, h2, (hb.block m (heap_lt h3)).trans h3⟩⟩] (by kernel_rfl) (by kernel_rfl) (by kernel_rfl) rfl (by decide) (by decide) (by simp) ?step ?rest
    case step =>
      intro i ac W d hi hd hb hoff hdep
      have hs := HS1.out.next hb
      obtain ⟨c0, c1, c2⟩ := hs.cells
      have ht := (hb.block _ (heap_lt HT1.out)).trans HT1.out
      obtain ⟨s0, s1, s2, s3, s4⟩ := box5j ht
      obtain ⟨d0, d1, d2, d3, d4⟩ := HD0.out.below hs.b hbw
      have hgc := (hb.cell (p := ⟨g, p, none⟩) hgl).trans HGC.out
      have hi2 : i = 0 ∨ i = 1 ∨ i = 2 ∨ i = 3 ∨ i = 4 ∨ i = 5 ∨ i = 6 ∨ i = 7 ∨ i = 8 ∨ i = 9 ∨ i = 10 ∨ i = 11 ∨ i = 12 ∨ i = 13 ∨ i = 14 ∨ i = 15 ∨ i = 16 ∨ i = 17 ∨ i = 18 := by omega
      rcases hi2 with rfl | rfl | rfl | rfl | rfl | rfl | rfl | rfl | rfl | rfl | rfl | rfl | rfl | rfl | rfl | rfl | rfl | rfl | rfl
      · obtain rfl : 16 = d := by simpa using hd
        have q3 : ac.tmps[3]?.getD undef = .pointer (some ⟨w.heap.size, 0, none⟩) := (eval_tmp _ _).symm.trans <| (hoff 3 (by decide)).trans rfl
        refine fact_value rfl rfl rfl (v := .pointer (some ⟨w.heap.size, 0, none⟩)) (W' := W) ?_ (Below.refl _ _) rfl
        simp only [execOp]
        go_simp
      · obtain rfl : 17 = d := by simpa using hd
        have q16 : ac.tmps[16]?.getD undef = .pointer (some ⟨w.heap.size, 0, none⟩) := (eval_tmp _ _).symm.trans (hdep 0 16 rfl rfl)
        refine fact_value rfl rfl rfl (v := .slice (some ⟨b, off, none⟩) C.deeds.length cap) (W' := W) ?_ (Below.refl _ _) rfl
        simp only [execOp]
        go_simp
      · obtain rfl : 18 = d := by simpa using hd
        have q3 : ac.tmps[3]?.getD undef = .pointer (some ⟨w.heap.size, 0, none⟩) := (eval_tmp _ _).symm.trans <| (hoff 3 (by decide)).trans rfl
        refine fact_value rfl rfl rfl (v := .agg #[.slice (some ⟨b, off, none⟩) C.deeds.length cap, .slice a2 C.sights.length cap2, .int .i64 C.wrong]) (W' := W) ?_ (Below.refl _ _) rfl
        simp only [execOp]
        go_simp
      · obtain rfl : 19 = d := by simpa using hd
        have q18 : ac.tmps[18]?.getD undef = .agg #[.slice (some ⟨b, off, none⟩) C.deeds.length cap, .slice a2 C.sights.length cap2, .int .i64 C.wrong] := (eval_tmp _ _).symm.trans (hdep 2 18 rfl rfl)
        refine fact_call rfl rfl rfl (f := 54) (args := #[.agg #[.slice (some ⟨b, off, none⟩) C.deeds.length cap, .slice a2 C.sights.length cap2, .int .i64 C.wrong]]) ?_ ?_
        · simp only [execOp]
          go_simp
        · refine (Welds_o _ C W HN40.out hs.st).mono ?_
          rintro e W' ⟨q, rfl, hls, hbk⟩
          exact ⟨q, rfl, hbk, hls⟩
      · obtain rfl : 20 = d := by simpa using hd
        have q7 : ac.tmps[7]?.getD undef = .slice (some ⟨g, 0, none⟩) M c := (eval_tmp _ _).symm.trans <| (hoff 7 (by decide)).trans rfl
        refine fact_value rfl rfl rfl (v := .slice (some ⟨g, 0, none⟩) M c) (W' := W) ?_ (Below.refl _ _) rfl
        simp only [execOp]
        go_simp
      · obtain rfl : 21 = d := by simpa using hd
        have q4 : ac.tmps[4]?.getD undef = .pointer (some ⟨w.heap.size + 1, 0, none⟩) := (eval_tmp _ _).symm.trans <| (hoff 4 (by decide)).trans rfl
        refine fact_value rfl rfl rfl (v := .pointer (some ⟨w.heap.size + 1, 1, none⟩)) (W' := W) ?_ (Below.refl _ _) rfl
        simp only [execOp]
        go_simp
      · obtain rfl : 22 = d := by simpa using hd
        have q21 : ac.tmps[21]?.getD undef = .pointer (some ⟨w.heap.size + 1, 1, none⟩) := (eval_tmp _ _).symm.trans (hdep 5 21 rfl rfl)
        refine fact_value rfl rfl rfl (v := .int .i64 s.at_) (W' := W) ?_ (Below.refl _ _) rfl
        simp only [execOp]
        go_simp
      · obtain rfl : 23 = d := by simpa using hd
        have q4 : ac.tmps[4]?.getD undef = .pointer (some ⟨w.heap.size + 1, 0, none⟩) := (eval_tmp _ _).symm.trans <| (hoff 4 (by decide)).trans rfl
        refine fact_value rfl rfl rfl (v := .pointer (some ⟨w.heap.size + 1, 2, none⟩)) (W' := W) ?_ (Below.refl _ _) rfl
        simp only [execOp]
        go_simp
      · obtain rfl : 24 = d := by simpa using hd
        have q23 : ac.tmps[23]?.getD undef = .pointer (some ⟨w.heap.size + 1, 2, none⟩) := (eval_tmp _ _).symm.trans (hdep 7 23 rfl rfl)
        refine fact_value rfl rfl rfl (v := .int .i64 s.from_) (W' := W) ?_ (Below.refl _ _) rfl
        simp only [execOp]
        go_simp
      · obtain rfl : 25 = d := by simpa using hd
        have q7 : ac.tmps[7]?.getD undef = .slice (some ⟨g, 0, none⟩) M c := (eval_tmp _ _).symm.trans <| (hoff 7 (by decide)).trans rfl
        refine fact_value rfl rfl rfl (v := .slice (some ⟨g, 0, none⟩) M c) (W' := W) ?_ (Below.refl _ _) rfl
        simp only [execOp]
        go_simp
      · obtain rfl : 26 = d := by simpa using hd
        have q25 : ac.tmps[25]?.getD undef = .slice (some ⟨g, 0, none⟩) M c := (eval_tmp _ _).symm.trans (hdep 9 25 rfl rfl)
        refine fact_value rfl rfl rfl (v := .int .i64 (M : Int)) (W' := W) ?_ (Below.refl _ _) rfl
        simp only [execOp]
        go_simp
      · obtain rfl : 27 = d := by simpa using hd
        have q22 : ac.tmps[22]?.getD undef = .int .i64 s.at_ := (eval_tmp _ _).symm.trans (hdep 6 22 rfl rfl)
        have q24 : ac.tmps[24]?.getD undef = .int .i64 s.from_ := (eval_tmp _ _).symm.trans (hdep 8 24 rfl rfl)
        have q26 : ac.tmps[26]?.getD undef = .int .i64 (M : Int) := (eval_tmp _ _).symm.trans (hdep 10 26 rfl rfl)
        refine fact_call rfl rfl rfl (f := 118) (args := #[.int .i64 s.at_, .int .i64 s.from_, .int .i64 (M : Int)]) ?_ ?_
        · simp only [execOp]
          go_simp
        · refine (HFH.out W).mono ?_
          rintro e W' ⟨rfl, rfl⟩
          exact ⟨_, rfl, Below.refl _ _, rfl⟩
      · obtain rfl : 28 = d := by simpa using hd
        have q20 : ac.tmps[20]?.getD undef = .slice (some ⟨g, 0, none⟩) M c := (eval_tmp _ _).symm.trans (hdep 4 20 rfl rfl)
        have q27 : ac.tmps[27]?.getD undef = .int .i64 (p : Int) := (eval_tmp _ _).symm.trans (hdep 11 27 rfl rfl)
        refine fact_value rfl rfl rfl (v := .pointer (some ⟨g, p, none⟩)) (W' := W) ?_ (Below.refl _ _) rfl
        simp only [execOp]
        go_simp
      · obtain rfl : 29 = d := by simpa using hd
        have q28 : ac.tmps[28]?.getD undef = .pointer (some ⟨g, p, none⟩) := (eval_tmp _ _).symm.trans (hdep 12 28 rfl rfl)
        refine fact_value rfl rfl rfl (v := .int .i64 (q : Int)) (W' := W) ?_ (Below.refl _ _) rfl
        simp only [execOp]
        go_simp
      · obtain rfl : 30 = d := by simpa using hd
        have q19 : OwnInts W (ac.tmps[19]?.getD undef) (weldIx C.deeds C.deeds.length) := eval_tmp ac _ ▸ hdep 3 19 rfl rfl
        have q29 : ac.tmps[29]?.getD undef = .int .i64 (q : Int) := (eval_tmp _ _).symm.trans (hdep 13 29 rfl rfl)
        obtain ⟨g, c, hq, hcell⟩ := q19.at ((show q < (weldIx C.deeds C.deeds.length).length by rw [weldIx_len]; exact HQW.out))
        rw [HJ.out] at hcell
        have i1 : (0 : Int) ≤ (q : Nat) := by omega
        have i2 : ((q : Nat) : Int) < ((weldIx C.deeds C.deeds.length).length : Int) := by have := (show q < (weldIx C.deeds C.deeds.length).length by rw [weldIx_len]; exact HQW.out); omega
        refine fact_value rfl rfl rfl (v := .pointer (some ⟨g, q, none⟩)) (W' := W) ?_ (Below.refl _ _) ⟨g, rfl, hcell⟩
        simp only [execOp]
        go_simp
      · obtain rfl : 31 = d := by simpa using hd
        have q30 : ∃ g, (ac.tmps[30]?.getD undef) = .pointer (some ⟨g, q, none⟩) ∧ W.cell? ⟨g, q, none⟩ = some (.int .i64 (j : Int)) := eval_tmp ac _ ▸ hdep 14 30 rfl rfl
        obtain ⟨g, hq, hcell⟩ := q30
        refine fact_value rfl rfl rfl (v := .int .i64 (j : Int)) (W' := W) ?_ (Below.refl _ _) rfl
        simp only [execOp]
        go_simp
      · obtain rfl : 32 = d := by simpa using hd
        have q17 : ac.tmps[17]?.getD undef = .slice (some ⟨b, off, none⟩) C.deeds.length cap := (eval_tmp _ _).symm.trans (hdep 1 17 rfl rfl)
        have q31 : ac.tmps[31]?.getD undef = .int .i64 (j : Int) := (eval_tmp _ _).symm.trans (hdep 15 31 rfl rfl)
        refine fact_value rfl rfl rfl (v := .pointer (some ⟨b, off + j * 5, none⟩)) (W' := W) ?_ (Below.refl _ _) rfl
        simp only [execOp]
        go_simp
      · obtain rfl : 33 = d := by simpa using hd
        have q32 : ac.tmps[32]?.getD undef = .pointer (some ⟨b, off + j * 5, none⟩) := (eval_tmp _ _).symm.trans (hdep 16 32 rfl rfl)
        refine fact_value rfl rfl rfl (v := .agg #[.int .i64 d.what, .int .i64 d.at_, .int .i64 d.from_, .int .i64 d.bar, .int .i64 d.smith]) (W' := W) ?_ (Below.refl _ _) rfl
        simp only [execOp]
        go_simp
      · obtain rfl : 8 = d := by simpa using hd
        refine fact_value rfl rfl rfl (v := .pointer (some ⟨W.heap.size, 0, none⟩)) (W' := W.alloc (.cells #[.int .i64 0, .int .i64 0, .int .i64 0, .int .i64 0, .int .i64 0] 55)) ?_ ((Below.refl _ _).alloc (Nat.le_refl _) _) ⟨_, rfl, by have := hb.size; omega, heap_new _ _⟩
        simp only [execOp]
        go_simp
    case rest =>
      intro vs W2 hvl hb2 hval
      obtain ⟨x0, x1, x2, x3, x4, x5, x6, x7, x8, x9, x10, x11, x12, x13, x14, x15, x16, x17, x18, rfl⟩ : ∃ x0 x1 x2 x3 x4 x5 x6 x7 x8 x9 x10 x11 x12 x13 x14 x15 x16 x17 x18, vs = [x0, x1, x2, x3, x4, x5, x6, x7, x8, x9, x10, x11, x12, x13, x14, x15, x16, x17, x18] := by
        match vs, hvl with
        | [x0, x1, x2, x3, x4, x5, x6, x7, x8, x9, x10, x11, x12, x13, x14, x15, x16, x17, x18], _ => exact ⟨x0, x1, x2, x3, x4, x5, x6, x7, x8, x9, x10, x11, x12, x13, x14, x15, x16, x17, x18, rfl⟩
      obtain rfl : x0 = .pointer (some ⟨w.heap.size, 0, none⟩) := by obtain ⟨u, e, h⟩ := hval 0 (by omega); have e2 : some x0 = some u := e; injection e2 with e2; subst e2; exact h
      obtain rfl : x1 = .slice (some ⟨b, off, none⟩) C.deeds.length cap := by obtain ⟨u, e, h⟩ := hval 1 (by omega); have e2 : some x1 = some u := e; injection e2 with e2; subst e2; exact h
      obtain rfl : x2 = .agg #[.slice (some ⟨b, off, none⟩) C.deeds.length cap, .slice a2 C.sights.length cap2, .int .i64 C.wrong] := by obtain ⟨u, e, h⟩ := hval 2 (by omega); have e2 : some x2 = some u := e; injection e2 with e2; subst e2; exact h
      have k3 : OwnInts W2 x3 (weldIx C.deeds C.deeds.length) := by obtain ⟨u, e, h⟩ := hval 3 (by omega); have e2 : some x3 = some u := e; injection e2 with e2; subst e2; exact h
      obtain rfl : x4 = .slice (some ⟨g, 0, none⟩) M c := by obtain ⟨u, e, h⟩ := hval 4 (by omega); have e2 : some x4 = some u := e; injection e2 with e2; subst e2; exact h
      obtain rfl : x5 = .pointer (some ⟨w.heap.size + 1, 1, none⟩) := by obtain ⟨u, e, h⟩ := hval 5 (by omega); have e2 : some x5 = some u := e; injection e2 with e2; subst e2; exact h
      obtain rfl : x6 = .int .i64 s.at_ := by obtain ⟨u, e, h⟩ := hval 6 (by omega); have e2 : some x6 = some u := e; injection e2 with e2; subst e2; exact h
      obtain rfl : x7 = .pointer (some ⟨w.heap.size + 1, 2, none⟩) := by obtain ⟨u, e, h⟩ := hval 7 (by omega); have e2 : some x7 = some u := e; injection e2 with e2; subst e2; exact h
      obtain rfl : x8 = .int .i64 s.from_ := by obtain ⟨u, e, h⟩ := hval 8 (by omega); have e2 : some x8 = some u := e; injection e2 with e2; subst e2; exact h
      obtain rfl : x9 = .slice (some ⟨g, 0, none⟩) M c := by obtain ⟨u, e, h⟩ := hval 9 (by omega); have e2 : some x9 = some u := e; injection e2 with e2; subst e2; exact h
      obtain rfl : x10 = .int .i64 (M : Int) := by obtain ⟨u, e, h⟩ := hval 10 (by omega); have e2 : some x10 = some u := e; injection e2 with e2; subst e2; exact h
      obtain rfl : x11 = .int .i64 (p : Int) := by obtain ⟨u, e, h⟩ := hval 11 (by omega); have e2 : some x11 = some u := e; injection e2 with e2; subst e2; exact h
      obtain rfl : x12 = .pointer (some ⟨g, p, none⟩) := by obtain ⟨u, e, h⟩ := hval 12 (by omega); have e2 : some x12 = some u := e; injection e2 with e2; subst e2; exact h
      obtain rfl : x13 = .int .i64 (q : Int) := by obtain ⟨u, e, h⟩ := hval 13 (by omega); have e2 : some x13 = some u := e; injection e2 with e2; subst e2; exact h
      have k14 : ∃ g, x14 = .pointer (some ⟨g, q, none⟩) ∧ W2.cell? ⟨g, q, none⟩ = some (.int .i64 (j : Int)) := by obtain ⟨u, e, h⟩ := hval 14 (by omega); have e2 : some x14 = some u := e; injection e2 with e2; subst e2; exact h
      obtain rfl : x15 = .int .i64 (j : Int) := by obtain ⟨u, e, h⟩ := hval 15 (by omega); have e2 : some x15 = some u := e; injection e2 with e2; subst e2; exact h
      obtain rfl : x16 = .pointer (some ⟨b, off + j * 5, none⟩) := by obtain ⟨u, e, h⟩ := hval 16 (by omega); have e2 : some x16 = some u := e; injection e2 with e2; subst e2; exact h
      obtain rfl : x17 = .agg #[.int .i64 d.what, .int .i64 d.at_, .int .i64 d.from_, .int .i64 d.bar, .int .i64 d.smith] := by obtain ⟨u, e, h⟩ := hval 17 (by omega); have e2 : some x17 = some u := e; injection e2 with e2; subst e2; exact h
      have k18 : ∃ m, x18 = .pointer (some ⟨m, 0, none⟩) ∧ w.heap.size + 2 ≤ m ∧ W2.heap[m]? = some (.cells #[.int .i64 0, .int .i64 0, .int .i64 0, .int .i64 0, .int .i64 0] 55) := by obtain ⟨u, e, h⟩ := hval 18 (by omega); have e2 : some x18 = some u := e; injection e2 with e2; subst e2; exact h
      clear hval hvl
      obtain ⟨m, rfl, hml, hmb⟩ := k18
      obtain ⟨⟨m0, m1, m2, m3, m4⟩, mf⟩ := box5f_of hmb
      have mf0 := mf 0
      have mf1 := mf 1
      have mf2 := mf 2
      have mf3 := mf 3
      have mf4 := mf 4
      have HMB := Lib.hid hmb
      have HB2 := Lib.hid ((HS1.out.next hb2).b)
      have HT2 := Lib.hid ((hb2.block _ (heap_lt HT1.out)).trans HT1.out)
      clear k3 k14 hb2 mf hmb
      simp only [putL, Act.put, List.drop, List.setIfInBounds_toArray, List.set_cons_zero, List.set_cons_succ]
      go_upto_region 3 with fail
      obtain ⟨Y, hY⟩ : ∃ Y, Y = put5 W2 m (.int .i64 d.what) (.int .i64 d.at_) (.int .i64 d.from_) (.int .i64 d.bar) (.int .i64 d.smith) := ⟨_, rfl⟩
      have hYm : Y.heap[m]? = some (.cells #[.int .i64 d.what, .int .i64 d.at_, .int .i64 d.from_, .int .i64 d.bar, .int .i64 d.smith] 55) := by rw [hY]; exact put5_heap HMB.out
      have hYb : Below (w.heap.size + 2) W2 Y := by rw [hY]; exact put5_below (Below.refl _ _) (by omega)
      have hYt := (hYb.block (w.heap.size + 1) (by omega)).trans HT2.out
      have hYB : Below w.heap.size w Y := HB2.out.trans (hYb.mono (by omega))
      unfold put5 at hY
      rw [← hY]
      clear hY m0 m1 m2 m3 m4 mf0 mf1 mf2 mf3 mf4
      obtain ⟨m0, m1, m2, m3, m4⟩ := box5j hYm
      obtain ⟨s0, s1, s2, s3, s4⟩ := box5j hYt
      have HBW := Lib.hid hYB
      clear hYm hYt hYB hYb
      by_cases hb1 : s.bar < 0
      · by_cases hs1 : s.smith < 0
        · go_wp2_with fail
          go_ret
          exact ⟨ret_bool (by rw [HR.out, Bool.eq_iff_iff]; first | (simp; done) | (simp; omega)), HBW.out⟩
        · by_cases hs2 : s.smith = d.smith
          · go_wp2_with fail
            go_ret
            exact ⟨ret_bool (by rw [HR.out, Bool.eq_iff_iff]; first | (simp; done) | (simp; omega)), HBW.out⟩
          · go_wp2_with fail
            go_ret
            exact ⟨ret_bool (by rw [HR.out, Bool.eq_iff_iff]; first | (simp; done) | (simp; omega)), HBW.out⟩
      · by_cases hb2 : s.bar = d.bar
        · by_cases hs1 : s.smith < 0
          · go_wp2_with fail
            go_ret
            exact ⟨ret_bool (by rw [HR.out, Bool.eq_iff_iff]; first | (simp; done) | (simp; omega)), HBW.out⟩
          · by_cases hs2 : s.smith = d.smith
            · go_wp2_with fail
              go_ret
              exact ⟨ret_bool (by rw [HR.out, Bool.eq_iff_iff]; first | (simp; done) | (simp; omega)), HBW.out⟩
            · go_wp2_with fail
              go_ret
              exact ⟨ret_bool (by rw [HR.out, Bool.eq_iff_iff]; first | (simp; done) | (simp; omega)), HBW.out⟩
        · go_wp2_with fail
          go_ret
          exact ⟨ret_bool (by rw [HR.out, Bool.eq_iff_iff]; first | (simp; done) | (simp; omega)), HBW.out⟩

end Go.Proofs.Ytgjikoebneiamaa
