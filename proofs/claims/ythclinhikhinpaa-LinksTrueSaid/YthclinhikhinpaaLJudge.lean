/-
  Links, the law's reference: the cable in the end.
  Links, the law's reference: whether a sight is right, and the bar of the link at a place.
  Links, the law's reference: how many sights are not right, whether ends are a truth, the bar of the link at a place.
  Links, the law's reference: at which deeds a link was proved.
-/
import Derived.Test.YthclinhikhinpaaLVals
import Derived.Test.YthclinhikhinpaaLStory
import Derived.Test.YthclinhikhinpaaLBars
import Derived.Test.YthclinhikhinpaaLProof

namespace Go.Proofs.Ythclinhikhinpaa
open Go.RowKit Go.Shelf

set_option maxRecDepth 100000 in
set_option maxHeartbeats 4000000 in
theorem Now_any (v u : Value) (C : Chain) (ends : List Int) (w : World) (hV : validB C = true) (hl : ends.length = C.deeds.length) (hx : ChainAt w.heap.size w v C) (hu : IntsAt w.heap.size w u ends) :
    Calls Try.prog 47 #[v, u] w fun e w' => ∃ q, e = .returned q ∧ OwnInts w' q (story C.deeds ends C.deeds.length) ∧ Below w.heap.size w w' := by
  have hx' := hx
  obtain ⟨a, cap, b, off, a2, cap2, b2, off2, rfl, hm, hm2, hcap, hcapm, HA, HC, HA2, HC2, HI, HI2⟩ := hx.opened
  have hu' := hu
  obtain ⟨ua, ucap, ub, uoff, rfl, hum, HUA, HUC, HUI⟩ := hu.opened
  have HS0 := Lib.hid (LStat.first hx')
  have HU := Lib.hid hu'
  have HL := Lib.hid hl
  have HV := Lib.hid hV
  have hnd := (valid_iff.1 hV).nd
  clear hx hx' HA2 HC2 HI HI2 hu hu' hV hl HA HC HUA HUC HUI
  go_enter Try.func47, Try.ntmps47
  go_upto_region 1 with fail
  refine wp_region_facts _ 9 [5, 6, 7, 8, 9, 10, 11, 12, 4] [isV (.agg #[.slice a C.deeds.length cap, .slice a2 C.sights.length cap2, .int .i64 C.wrong]), isV (.slice ua ends.length ucap), ⟨fun v W => ListsAt W 0 v (storiesTo C.deeds ends C.deeds.length), fun _ _ _ h hb => h.below hb⟩, isV (.pointer (some ⟨w.heap.size, 0, none⟩)), isV (.slice a C.deeds.length cap), isV (.int .i64 (C.deeds.length : Int)), ⟨fun v W => ∃ g x, v = .pointer (some ⟨g, C.deeds.length, none⟩) ∧ W.cell? ⟨g, C.deeds.length, none⟩ = some x ∧ OwnInts W x (story C.deeds ends C.deeds.length), fun _ _ _ ⟨g, x, h1, h2, h3⟩ hb => ⟨g, x, h1, (hb.cell (block_lt_of_cell h2)).trans h2, h3.below hb⟩⟩, ⟨fun v W => OwnInts W v (story C.deeds ends C.deeds.length), fun _ _ _ h hb => h.below hb⟩, ⟨fun v W => OwnInts W v (story C.deeds ends C.deeds.length), fun _ _ _ h hb => h.below hb⟩] (by kernel_rfl) (by kernel_rfl) (by kernel_rfl) rfl (by decide) (by decide) (by simp) ?step ?rest
  case step =>
    intro i ac W d hi hd hb hoff hdep
    have hs := HS0.out.next hb
    obtain ⟨c0, c1, c2⟩ := hs.cells
    have hi2 : i = 0 ∨ i = 1 ∨ i = 2 ∨ i = 3 ∨ i = 4 ∨ i = 5 ∨ i = 6 ∨ i = 7 ∨ i = 8 := by omega
    rcases hi2 with rfl | rfl | rfl | rfl | rfl | rfl | rfl | rfl | rfl
    · obtain rfl : 5 = d := by simpa using hd
      have q2 : ac.tmps[2]?.getD undef = .pointer (some ⟨w.heap.size, 0, none⟩) := (eval_tmp _ _).symm.trans <| (hoff 2 (by decide)).trans rfl
      refine fact_value rfl rfl rfl (v := .agg #[.slice a C.deeds.length cap, .slice a2 C.sights.length cap2, .int .i64 C.wrong]) (W' := W) ?_ (Below.refl _ _) rfl
      simp only [execOp, q2]
      go_simp
    · obtain rfl : 6 = d := by simpa using hd
      have q1 : ac.tmps[1]?.getD undef = .slice ua ends.length ucap := (eval_tmp _ _).symm.trans <| (hoff 1 (by decide)).trans rfl
      refine fact_value rfl rfl rfl (v := .slice ua ends.length ucap) (W' := W) ?_ (Below.refl _ _) rfl
      simp only [execOp, q1]
      go_simp
    · obtain rfl : 7 = d := by simpa using hd
      have q5 : ac.tmps[5]?.getD undef = .agg #[.slice a C.deeds.length cap, .slice a2 C.sights.length cap2, .int .i64 C.wrong] := (eval_tmp _ _).symm.trans (hdep 0 5 rfl rfl)
      have q6 : ac.tmps[6]?.getD undef = .slice ua ends.length ucap := (eval_tmp _ _).symm.trans (hdep 1 6 rfl rfl)
      refine fact_call rfl rfl rfl (f := 96) (args := #[.agg #[.slice a C.deeds.length cap, .slice a2 C.sights.length cap2, .int .i64 C.wrong], .slice ua ends.length ucap]) ?_ ?_
      · simp only [execOp, q5, q6]
        go_simp
      · refine (Story_any _ _ C ends W HV.out HL.out hs.st ((HU.out.below hs.b).mono hs.b.size)).mono ?_
        rintro e W' ⟨q, rfl, hls, hbk⟩
        exact ⟨q, rfl, hbk, hls.lower (Nat.zero_le _)⟩
    · obtain rfl : 8 = d := by simpa using hd
      have q2 : ac.tmps[2]?.getD undef = .pointer (some ⟨w.heap.size, 0, none⟩) := (eval_tmp _ _).symm.trans <| (hoff 2 (by decide)).trans rfl
      refine fact_value rfl rfl rfl (v := .pointer (some ⟨w.heap.size, 0, none⟩)) (W' := W) ?_ (Below.refl _ _) rfl
      simp only [execOp, q2]
      go_simp
    · obtain rfl : 9 = d := by simpa using hd
      have q8 : ac.tmps[8]?.getD undef = .pointer (some ⟨w.heap.size, 0, none⟩) := (eval_tmp _ _).symm.trans (hdep 3 8 rfl rfl)
      refine fact_value rfl rfl rfl (v := .slice a C.deeds.length cap) (W' := W) ?_ (Below.refl _ _) rfl
      simp only [execOp, q8]
      go_simp
    · obtain rfl : 10 = d := by simpa using hd
      have q9 : ac.tmps[9]?.getD undef = .slice a C.deeds.length cap := (eval_tmp _ _).symm.trans (hdep 4 9 rfl rfl)
      refine fact_value rfl rfl rfl (v := .int .i64 (C.deeds.length : Int)) (W' := W) ?_ (Below.refl _ _) rfl
      simp only [execOp, q9]
      go_simp
    · obtain rfl : 11 = d := by simpa using hd
      have q7 : ListsAt W 0 (ac.tmps[7]?.getD undef) (storiesTo C.deeds ends C.deeds.length) := eval_tmp ac _ ▸ hdep 2 7 rfl rfl
      have q10 : ac.tmps[10]?.getD undef = .int .i64 (C.deeds.length : Int) := (eval_tmp _ _).symm.trans (hdep 5 10 rfl rfl)
      obtain ⟨g, c, x, hq, hcell, hown⟩ := q7.get (i := C.deeds.length) (by rw [storiesTo_len]; omega)
      rw [storiesTo_nth _ _ (Nat.le_refl _)] at hown
      rw [storiesTo_len] at hq
      have i1 : (0 : Int) ≤ (C.deeds.length : Nat) := by omega
      have i2 : ((C.deeds.length : Nat) : Int) < (C.deeds.length : Int) + 1 := by omega
      refine fact_value rfl rfl rfl (v := .pointer (some ⟨g, C.deeds.length, none⟩)) (W' := W) ?_ (Below.refl _ _) ⟨g, x, rfl, hcell, hown⟩
      simp only [execOp, q10, hq]
      go_simp
    · obtain rfl : 12 = d := by simpa using hd
      have q11 : ∃ g x, (ac.tmps[11]?.getD undef) = .pointer (some ⟨g, C.deeds.length, none⟩) ∧ W.cell? ⟨g, C.deeds.length, none⟩ = some x ∧ OwnInts W x (story C.deeds ends C.deeds.length) := eval_tmp ac _ ▸ hdep 6 11 rfl rfl
      obtain ⟨g, x, hq, hcell, hown⟩ := q11
      refine fact_value rfl rfl rfl (v := x) (W' := W) ?_ (Below.refl _ _) hown
      simp only [execOp, hq]
      go_simp
    · obtain rfl : 4 = d := by simpa using hd
      have q12 : OwnInts W (ac.tmps[12]?.getD undef) (story C.deeds ends C.deeds.length) := eval_tmp ac _ ▸ hdep 7 12 rfl rfl
      refine fact_value rfl rfl rfl (v := _) (W' := W) ?_ (Below.refl _ _) q12
      simp only [execOp]
      go_simp
  case rest =>
    intro vs W hvl hb hval
    obtain ⟨v0, v1, v2, v3, v4, v5, v6, v7, v8, rfl⟩ : ∃ v0 v1 v2 v3 v4 v5 v6 v7 v8, vs = [v0, v1, v2, v3, v4, v5, v6, v7, v8] := by
      match vs, hvl with
      | [v0, v1, v2, v3, v4, v5, v6, v7, v8], _ => exact ⟨v0, v1, v2, v3, v4, v5, v6, v7, v8, rfl⟩
    obtain rfl : v0 = .agg #[.slice a C.deeds.length cap, .slice a2 C.sights.length cap2, .int .i64 C.wrong] := by obtain ⟨u, e, h⟩ := hval 0 (by omega); simp only [List.getElem?_cons_zero, List.getElem?_cons_succ, Option.some.injEq] at e; subst e; exact h
    obtain rfl : v1 = .slice ua ends.length ucap := by obtain ⟨u, e, h⟩ := hval 1 (by omega); simp only [List.getElem?_cons_zero, List.getElem?_cons_succ, Option.some.injEq] at e; subst e; exact h
    have k2 : ListsAt W 0 v2 (storiesTo C.deeds ends C.deeds.length) := by obtain ⟨u, e, h⟩ := hval 2 (by omega); simp only [List.getElem?_cons_zero, List.getElem?_cons_succ, Option.some.injEq] at e; subst e; exact h
    obtain rfl : v3 = .pointer (some ⟨w.heap.size, 0, none⟩) := by obtain ⟨u, e, h⟩ := hval 3 (by omega); simp only [List.getElem?_cons_zero, List.getElem?_cons_succ, Option.some.injEq] at e; subst e; exact h
    obtain rfl : v4 = .slice a C.deeds.length cap := by obtain ⟨u, e, h⟩ := hval 4 (by omega); simp only [List.getElem?_cons_zero, List.getElem?_cons_succ, Option.some.injEq] at e; subst e; exact h
    obtain rfl : v5 = .int .i64 (C.deeds.length : Int) := by obtain ⟨u, e, h⟩ := hval 5 (by omega); simp only [List.getElem?_cons_zero, List.getElem?_cons_succ, Option.some.injEq] at e; subst e; exact h
    have k6 : ∃ g x, v6 = .pointer (some ⟨g, C.deeds.length, none⟩) ∧ W.cell? ⟨g, C.deeds.length, none⟩ = some x ∧ OwnInts W x (story C.deeds ends C.deeds.length) := by obtain ⟨u, e, h⟩ := hval 6 (by omega); simp only [List.getElem?_cons_zero, List.getElem?_cons_succ, Option.some.injEq] at e; subst e; exact h
    have k7 : OwnInts W v7 (story C.deeds ends C.deeds.length) := by obtain ⟨u, e, h⟩ := hval 7 (by omega); simp only [List.getElem?_cons_zero, List.getElem?_cons_succ, Option.some.injEq] at e; subst e; exact h
    have k8 : OwnInts W v8 (story C.deeds ends C.deeds.length) := by obtain ⟨u, e, h⟩ := hval 8 (by omega); simp only [List.getElem?_cons_zero, List.getElem?_cons_succ, Option.some.injEq] at e; subst e; exact h
    clear hval hvl
    have hs := HS0.out.next hb
    have HB := Lib.hid hs.b
    have HK := Lib.hid k8
    clear hs hb k2 k6 k7 k8
    simp only [putL, Act.put, List.drop, List.length_cons, List.length_nil, Nat.reduceAdd, List.setIfInBounds_toArray, List.set_cons_zero, List.set_cons_succ]
    go_wp2
    go_ret
    exact ⟨_, rfl, HK.out, HB.out⟩

end Go.Proofs.Ythclinhikhinpaa

namespace Go.Proofs.Ythclinhikhinpaa
open Go.RowKit Go.Shelf

theorem OwnInts.at {w : World} {v : Value} {xs : List Int} (h : OwnInts w v xs) {i : Nat} (hi : i < xs.length) : ∃ g c, v = .slice (some ⟨g, 0, none⟩) xs.length c ∧ w.cell? ⟨g, i, none⟩ = some (.int .i64 (nth xs i)) := by
  obtain ⟨A, c, rfl, _⟩ := own_form h
  have h2 := h
  rcases h2.2 with ⟨_, h0⟩ | ⟨g, cap, cur, e, _⟩
  · omega
  · injection e with e1 _ e3
    subst e1
    refine ⟨g, c, rfl, ?_⟩
    rw [h.cellAt i (by simpa using hi)]
    simp [nth_lt hi, hi]
theorem Welds_o (v : Value) (C : Chain) (w : World) (hn : C.deeds.length ≤ 40) (hx : ChainAt w.heap.size w v C) :
    Calls Try.prog 54 #[v] w fun e w' => ∃ q, e = .returned q ∧ OwnInts w' q (weldIx C.deeds C.deeds.length) ∧ Below w.heap.size w w' := by
  refine (Welds_any v C w hn hx).mono ?_
  rintro e w' ⟨A, c, rfl, h, hb⟩
  refine ⟨_, rfl, ?_, hb⟩
  unfold OwnInts
  rw [weldIx_len]
  exact own_grow0 (W := w') h (Nat.zero_le _)
/-- The deed of a link. -/
theorem weld_deed {C : Chain} (hV : Valid C) {q : Nat} (hq : q < weldsTo C.deeds C.deeds.length) :
    ∃ j : Nat, nth (weldIx C.deeds C.deeds.length) q = j ∧ j < C.deeds.length ∧ dnth C.deeds j = dnth (weldL C.deeds) q := by
  have hl := weldIx_len C.deeds C.deeds.length
  have h := weldIx_le C.deeds C.deeds.length _ (nth_mem (xs := weldIx C.deeds C.deeds.length) (i := q) (by omega))
  have hw := weldIx_weld C.deeds C.deeds.length (Nat.le_refl _) q hq
  refine ⟨(nth (weldIx C.deeds C.deeds.length) q).toNat, by omega, by omega, hw⟩
theorem box5j {w : World} {b : Nat} {v0 v1 v2 v3 v4 : Value} {t : TypeId} (e : w.heap[b]? = some (.cells #[v0, v1, v2, v3, v4] t)) :
    w.cell? ⟨b, 0, none⟩ = some v0 ∧ w.cell? ⟨b, 1, none⟩ = some v1 ∧ w.cell? ⟨b, 2, none⟩ = some v2 ∧ w.cell? ⟨b, 3, none⟩ = some v3 ∧ w.cell? ⟨b, 4, none⟩ = some v4 := by
  refine ⟨?_, ?_, ?_, ?_, ?_⟩ <;> simp [World.cell?, e]
def put5 (w : World) (b : Nat) (v0 v1 v2 v3 v4 : Value) : World := ((((w.setCell ⟨b, 0, none⟩ v0).setCell ⟨b, 1, none⟩ v1).setCell ⟨b, 2, none⟩ v2).setCell ⟨b, 3, none⟩ v3).setCell ⟨b, 4, none⟩ v4
theorem put5_heap {w : World} {b : Nat} {v0 v1 v2 v3 v4 z0 z1 z2 z3 z4 : Value} {t : TypeId} (h : w.heap[b]? = some (.cells #[z0, z1, z2, z3, z4] t)) : (put5 w b v0 v1 v2 v3 v4).heap[b]? = some (.cells #[v0, v1, v2, v3, v4] t) := by
  unfold put5
  rw [heap_setCell_same (heap_setCell_same (heap_setCell_same (heap_setCell_same (heap_setCell_same h))))]
  rfl
theorem put5_below {B : Nat} {w W : World} {b : Nat} {v0 v1 v2 v3 v4 : Value} (h : Below B w W) (hb : B ≤ b) : Below B w (put5 W b v0 v1 v2 v3 v4) := below_setCell (below_setCell (below_setCell (below_setCell (below_setCell h hb) hb) hb) hb) hb
theorem box5f_of {w : World} {b : Nat} {v0 v1 v2 v3 v4 : Value} {t : TypeId} (e : w.heap[b]? = some (.cells #[v0, v1, v2, v3, v4] t)) :
    (w.cell? ⟨b, 0, none⟩ = some v0 ∧ w.cell? ⟨b, 1, none⟩ = some v1 ∧ w.cell? ⟨b, 2, none⟩ = some v2 ∧ w.cell? ⟨b, 3, none⟩ = some v3 ∧ w.cell? ⟨b, 4, none⟩ = some v4) ∧ ∀ i, w.frozen? ⟨b, i, none⟩ = false := by
  refine ⟨⟨?_, ?_, ?_, ?_, ?_⟩, fun i => ?_⟩ <;> simp [World.cell?, World.frozen?, e]

set_option maxRecDepth 100000 in
set_option maxHeartbeats 8000000 in
theorem Right_any (v u : Value) (C : Chain) (s : Sight) (ends : List Int) (w : World) (hV : validB C = true) (hl : ends.length = C.deeds.length) (hsr : sightAll C.deeds s = true) (hx : ChainAt w.heap.size w v C) (hu : IntsAt w.heap.size w u ends) :
    Calls Try.prog 97 #[v, sV s, u] w fun e w' => e = .returned (.bool (rightB C.deeds ends s)) ∧ Below w.heap.size w w' := by
  have hx' := hx
  obtain ⟨a, cap, b, off, a2, cap2, b2, off2, rfl, hm, hm2, hcap, hcapm, HA, HC, HA2, HC2, HI, HI2⟩ := hx.opened
  have hu' := hu
  obtain ⟨ua, ucap, ub, uoff, rfl, hum, HUA, HUC, HUI⟩ := hu.opened
  have hV' := valid_iff.1 hV
  have hnd := hV'.nd
  obtain ⟨sa, sb, sc, sd, se, sf, sg, sh, si, sj⟩ := sightIs hsr
  obtain ⟨k, hk⟩ : ∃ k : Nat, s.after = k := ⟨s.after.toNat, by omega⟩
  have hkn : k ≤ C.deeds.length := by omega
  have hlen := (story_ok (ends := ends) hV'.deed k hkn).1
  have hll := lenTo_le C.deeds k
  have hkk : s.after.toNat = k := by omega
  rw [hkk] at sd
  have hfh := fromHead_lt (a := s.at_) (f := s.from_) (n := (story C.deeds ends k).length) sc (by omega)
  obtain ⟨p, hpe⟩ : ∃ p : Nat, fromHead s.at_ s.from_ (story C.deeds ends k).length = p := ⟨_, (Int.toNat_of_nonneg hfh.1).symm⟩
  have hpl : p < (story C.deeds ends k).length := by omega
  obtain ⟨q, hq, hqw⟩ := story_link hV' ends hkn hpl
  obtain ⟨j, hj, hjn, hdj⟩ := weld_deed hV' hqw
  have hw12 := weldsTo_le C.deeds C.deeds.length
  obtain ⟨d, hd⟩ : ∃ d, dnth (weldL C.deeds) q = d := ⟨_, rfl⟩
  have hr : rightB C.deeds ends s = ((decide (s.bar < 0) || decide (s.bar = d.bar)) && (decide (s.smith < 0) || decide (s.smith = d.smith))) := by
    simp only [rightB, hkk, hpe, Int.toNat_natCast, hq, markD, hd]
  have HR := Lib.hid hr
  rw [hd] at hdj
  obtain ⟨M, hM⟩ : ∃ M, (story C.deeds ends k).length = M := ⟨_, rfl⟩
  rw [hM] at hlen hpl hpe hfh
  have hM12 : M ≤ 12 := by omega
  have hI : I64 (fromHead s.at_ s.from_ M) := by rw [hpe]; unfold I64; omega
  have HFH := Lib.hid (fun w => hpe ▸ place_any s.at_ s.from_ M w hI (by omega) (by omega))
  have HS0 := Lib.hid ((LStat.first hx').next ((Below.refl _ _).alloc (Nat.le_refl _) (.cells #[.int .i64 s.after, .int .i64 s.at_, .int .i64 s.from_, .int .i64 s.bar, .int .i64 s.smith] 60)))
  have HT0 := Lib.hid (heap_new1 w (.cells #[.slice a C.deeds.length cap, .slice a2 C.sights.length cap2, .int .i64 C.wrong] 25) (.cells #[.int .i64 s.after, .int .i64 s.at_, .int .i64 s.from_, .int .i64 s.bar, .int .i64 s.smith] 60))
  have HU := Lib.hid hu'
  have HL := Lib.hid hl
  have HV := Lib.hid hV
  have HV' := Lib.hid hV'
  have HN40 := Lib.hid (show C.deeds.length ≤ 40 by omega)
  obtain ⟨rfl, hbw⟩ := HA.out (by omega)
  have HD0 := Lib.hid (show Five w b (off + j * 5) d.what d.at_ d.from_ d.bar d.smith from by have := HC.out j hjn; rwa [hdj] at this)
  have HQ := Lib.hid hq
  have HJ := Lib.hid hj
  have HPL := Lib.hid hpl
  have HQW := Lib.hid hqw
  have HM := Lib.hid hM
  have hjn0 : (0 : Int) ≤ (j : Nat) := by omega
  have hjn1 : ((j : Nat) : Int) < (C.deeds.length : Int) := by omega
  have hpn0 : (0 : Int) ≤ (p : Nat) := by omega
  have hpn1 : ((p : Nat) : Int) < (M : Int) := by omega
  clear hx hx' HA2 HC2 HI HI2 hu hu' hV hV' hl HA HC HUA HUC HUI hr hfh hpe hI hlen hq hj hdj hd hM sa sb sc sd se sf sg sh si sj hsr hkk
  unfold sV
  rw [hk] at HS0 HT0 ⊢
  go_enter Try.func97, Try.ntmps97
  go_upto_region 1 with fail
  obtain ⟨W0, hW0⟩ : ∃ W0, W0 = (w.alloc (.cells #[.slice (some ⟨b, off, none⟩) C.deeds.length cap, .slice a2 C.sights.length cap2, .int .i64 C.wrong] 25)).alloc (.cells #[.int .i64 k, .int .i64 s.at_, .int .i64 s.from_, .int .i64 s.bar, .int .i64 s.smith] 60) := ⟨_, rfl⟩
  have hsz0 : W0.heap.size = w.heap.size + 2 := by rw [hW0]; simp
  rw [← hW0] at HS0 HT0 ⊢
  clear hW0
  refine wp_region_facts _ 8 [9, 10, 11, 12, 13, 14, 15, 7] [isV (.agg #[.slice (some ⟨b, off, none⟩) C.deeds.length cap, .slice a2 C.sights.length cap2, .int .i64 C.wrong]), isV (.slice ua ends.length ucap), ⟨fun v W => ListsAt W 0 v (storiesTo C.deeds ends C.deeds.length), fun _ _ _ h hb => h.below hb⟩, isV (.pointer (some ⟨w.heap.size + 1, 0, none⟩)), isV (.int .i64 (k : Int)), ⟨fun v W => ∃ g x, v = .pointer (some ⟨g, k, none⟩) ∧ W.cell? ⟨g, k, none⟩ = some x ∧ OwnInts W x (story C.deeds ends k), fun _ _ _ ⟨g, x, h1, h2, h3⟩ hb => ⟨g, x, h1, (hb.cell (block_lt_of_cell h2)).trans h2, h3.below hb⟩⟩, ⟨fun v W => OwnInts W v (story C.deeds ends k), fun _ _ _ h hb => h.below hb⟩, ⟨fun v W => OwnInts W v (story C.deeds ends k), fun _ _ _ h hb => h.below hb⟩] (by kernel_rfl) (by kernel_rfl) (by kernel_rfl) rfl (by decide) (by decide) (by simp) ?step ?rest
  case step =>
    intro i ac W d hi hd hb hoff hdep
    have hs := HS0.out.next hb
    obtain ⟨c0, c1, c2⟩ := hs.cells
    have ht := (hb.block _ (heap_lt HT0.out)).trans HT0.out
    obtain ⟨s0, s1, s2, s3, s4⟩ := box5j ht
    have hi2 : i = 0 ∨ i = 1 ∨ i = 2 ∨ i = 3 ∨ i = 4 ∨ i = 5 ∨ i = 6 ∨ i = 7 := by omega
    rcases hi2 with rfl | rfl | rfl | rfl | rfl | rfl | rfl | rfl
    · obtain rfl : 9 = d := by simpa using hd
      have q3 : ac.tmps[3]?.getD undef = .pointer (some ⟨w.heap.size, 0, none⟩) := (eval_tmp _ _).symm.trans <| (hoff 3 (by decide)).trans rfl
      refine fact_value rfl rfl rfl (v := .agg #[.slice (some ⟨b, off, none⟩) C.deeds.length cap, .slice a2 C.sights.length cap2, .int .i64 C.wrong]) (W' := W) ?_ (Below.refl _ _) rfl
      simp only [execOp, q3]
      go_simp
    · obtain rfl : 10 = d := by simpa using hd
      have q2 : ac.tmps[2]?.getD undef = .slice ua ends.length ucap := (eval_tmp _ _).symm.trans <| (hoff 2 (by decide)).trans rfl
      refine fact_value rfl rfl rfl (v := .slice ua ends.length ucap) (W' := W) ?_ (Below.refl _ _) rfl
      simp only [execOp, q2]
      go_simp
    · obtain rfl : 11 = d := by simpa using hd
      have q9 : ac.tmps[9]?.getD undef = .agg #[.slice (some ⟨b, off, none⟩) C.deeds.length cap, .slice a2 C.sights.length cap2, .int .i64 C.wrong] := (eval_tmp _ _).symm.trans (hdep 0 9 rfl rfl)
      have q10 : ac.tmps[10]?.getD undef = .slice ua ends.length ucap := (eval_tmp _ _).symm.trans (hdep 1 10 rfl rfl)
      refine fact_call rfl rfl rfl (f := 96) (args := #[.agg #[.slice (some ⟨b, off, none⟩) C.deeds.length cap, .slice a2 C.sights.length cap2, .int .i64 C.wrong], .slice ua ends.length ucap]) ?_ ?_
      · simp only [execOp, q9, q10]
        go_simp
      · refine (Story_any _ _ C ends W HV.out HL.out hs.st ((HU.out.below hs.b).mono hs.b.size)).mono ?_
        rintro e W' ⟨q, rfl, hls, hbk⟩
        exact ⟨q, rfl, hbk, hls.lower (Nat.zero_le _)⟩
    · obtain rfl : 12 = d := by simpa using hd
      have q4 : ac.tmps[4]?.getD undef = .pointer (some ⟨w.heap.size + 1, 0, none⟩) := (eval_tmp _ _).symm.trans <| (hoff 4 (by decide)).trans rfl
      refine fact_value rfl rfl rfl (v := .pointer (some ⟨w.heap.size + 1, 0, none⟩)) (W' := W) ?_ (Below.refl _ _) rfl
      simp only [execOp, q4]
      go_simp
    · obtain rfl : 13 = d := by simpa using hd
      have q12 : ac.tmps[12]?.getD undef = .pointer (some ⟨w.heap.size + 1, 0, none⟩) := (eval_tmp _ _).symm.trans (hdep 3 12 rfl rfl)
      refine fact_value rfl rfl rfl (v := .int .i64 (k : Int)) (W' := W) ?_ (Below.refl _ _) rfl
      simp only [execOp, q12]
      go_simp
    · obtain rfl : 14 = d := by simpa using hd
      have q11 : ListsAt W 0 (ac.tmps[11]?.getD undef) (storiesTo C.deeds ends C.deeds.length) := eval_tmp ac _ ▸ hdep 2 11 rfl rfl
      have q13 : ac.tmps[13]?.getD undef = .int .i64 (k : Int) := (eval_tmp _ _).symm.trans (hdep 4 13 rfl rfl)
      obtain ⟨g, c, x, hq, hcell, hown⟩ := q11.get (i := k) (by rw [storiesTo_len]; omega)
      rw [storiesTo_nth _ _ (hkn)] at hown
      rw [storiesTo_len] at hq
      have i1 : (0 : Int) ≤ (k : Nat) := by omega
      have i2 : ((k : Nat) : Int) < (C.deeds.length : Int) + 1 := by omega
      refine fact_value rfl rfl rfl (v := .pointer (some ⟨g, k, none⟩)) (W' := W) ?_ (Below.refl _ _) ⟨g, x, rfl, hcell, hown⟩
      simp only [execOp, q13, hq]
      go_simp
    · obtain rfl : 15 = d := by simpa using hd
      have q14 : ∃ g x, (ac.tmps[14]?.getD undef) = .pointer (some ⟨g, k, none⟩) ∧ W.cell? ⟨g, k, none⟩ = some x ∧ OwnInts W x (story C.deeds ends k) := eval_tmp ac _ ▸ hdep 5 14 rfl rfl
      obtain ⟨g, x, hq, hcell, hown⟩ := q14
      refine fact_value rfl rfl rfl (v := x) (W' := W) ?_ (Below.refl _ _) hown
      simp only [execOp, hq]
      go_simp
    · obtain rfl : 7 = d := by simpa using hd
      have q15 : OwnInts W (ac.tmps[15]?.getD undef) (story C.deeds ends k) := eval_tmp ac _ ▸ hdep 6 15 rfl rfl
      refine fact_value rfl rfl rfl (v := _) (W' := W) ?_ (Below.refl _ _) q15
      simp only [execOp]
      go_simp
  case rest =>
    intro vs W1 hvl hb1 hval
    obtain ⟨r0, r1, r2, r3, r4, r5, r6, r7, rfl⟩ : ∃ r0 r1 r2 r3 r4 r5 r6 r7, vs = [r0, r1, r2, r3, r4, r5, r6, r7] := by
      match vs, hvl with
      | [r0, r1, r2, r3, r4, r5, r6, r7], _ => exact ⟨r0, r1, r2, r3, r4, r5, r6, r7, rfl⟩
    obtain rfl : r0 = .agg #[.slice (some ⟨b, off, none⟩) C.deeds.length cap, .slice a2 C.sights.length cap2, .int .i64 C.wrong] := by obtain ⟨u, e, h⟩ := hval 0 (by omega); simp only [List.getElem?_cons_zero, List.getElem?_cons_succ, Option.some.injEq] at e; subst e; exact h
    obtain rfl : r1 = .slice ua ends.length ucap := by obtain ⟨u, e, h⟩ := hval 1 (by omega); simp only [List.getElem?_cons_zero, List.getElem?_cons_succ, Option.some.injEq] at e; subst e; exact h
    have k2 : ListsAt W1 0 r2 (storiesTo C.deeds ends C.deeds.length) := by obtain ⟨u, e, h⟩ := hval 2 (by omega); simp only [List.getElem?_cons_zero, List.getElem?_cons_succ, Option.some.injEq] at e; subst e; exact h
    obtain rfl : r3 = .pointer (some ⟨w.heap.size + 1, 0, none⟩) := by obtain ⟨u, e, h⟩ := hval 3 (by omega); simp only [List.getElem?_cons_zero, List.getElem?_cons_succ, Option.some.injEq] at e; subst e; exact h
    obtain rfl : r4 = .int .i64 (k : Int) := by obtain ⟨u, e, h⟩ := hval 4 (by omega); simp only [List.getElem?_cons_zero, List.getElem?_cons_succ, Option.some.injEq] at e; subst e; exact h
    have k5 : ∃ g x, r5 = .pointer (some ⟨g, k, none⟩) ∧ W1.cell? ⟨g, k, none⟩ = some x ∧ OwnInts W1 x (story C.deeds ends k) := by obtain ⟨u, e, h⟩ := hval 5 (by omega); simp only [List.getElem?_cons_zero, List.getElem?_cons_succ, Option.some.injEq] at e; subst e; exact h
    have k6 : OwnInts W1 r6 (story C.deeds ends k) := by obtain ⟨u, e, h⟩ := hval 6 (by omega); simp only [List.getElem?_cons_zero, List.getElem?_cons_succ, Option.some.injEq] at e; subst e; exact h
    have k7 : OwnInts W1 r7 (story C.deeds ends k) := by obtain ⟨u, e, h⟩ := hval 7 (by omega); simp only [List.getElem?_cons_zero, List.getElem?_cons_succ, Option.some.injEq] at e; subst e; exact h
    clear hval hvl
    obtain ⟨g, c, rfl, hgc⟩ := k7.at (i := p) (by rw [HM.out]; omega)
    rw [HM.out, HQ.out] at *
    have HS1 := Lib.hid (HS0.out.next hb1)
    have HT1 := Lib.hid ((hb1.block _ (heap_lt HT0.out)).trans HT0.out)
    have HK1 := Lib.hid k7
    have hsz1 := hb1.size
    have hgl : g < W1.heap.size := block_lt_of_cell hgc
    have HGC := Lib.hid hgc
    clear k2 k5 k6 k7 hb1 hgc
    simp only [putL, Act.put, List.drop, List.length_cons, List.length_nil, Nat.reduceAdd, List.setIfInBounds_toArray, List.set_cons_zero, List.set_cons_succ]
    go_upto_region 2 with fail
    refine wp_region_facts _ 19 [16, 17, 18, 19, 20, 21, 22, 23, 24, 25, 26, 27, 28, 29, 30, 31, 32, 33, 8] [isV (.pointer (some ⟨w.heap.size, 0, none⟩)), isV (.slice (some ⟨b, off, none⟩) C.deeds.length cap), isV (.agg #[.slice (some ⟨b, off, none⟩) C.deeds.length cap, .slice a2 C.sights.length cap2, .int .i64 C.wrong]), ⟨fun v W => OwnInts W v (weldIx C.deeds C.deeds.length), fun _ _ _ h hb => h.below hb⟩, isV (.slice (some ⟨g, 0, none⟩) M c), isV (.pointer (some ⟨w.heap.size + 1, 1, none⟩)), isV (.int .i64 s.at_), isV (.pointer (some ⟨w.heap.size + 1, 2, none⟩)), isV (.int .i64 s.from_), isV (.slice (some ⟨g, 0, none⟩) M c), isV (.int .i64 (M : Int)), isV (.int .i64 (p : Int)), isV (.pointer (some ⟨g, p, none⟩)), isV (.int .i64 (q : Int)), ⟨fun v W => ∃ g, v = .pointer (some ⟨g, q, none⟩) ∧ W.cell? ⟨g, q, none⟩ = some (.int .i64 (j : Int)), fun _ _ _ ⟨g, h1, h2⟩ hb => ⟨g, h1, (hb.cell (block_lt_of_cell h2)).trans h2⟩⟩, isV (.int .i64 (j : Int)), isV (.pointer (some ⟨b, off + j * 5, none⟩)), isV (.agg #[.int .i64 d.what, .int .i64 d.at_, .int .i64 d.from_, .int .i64 d.bar, .int .i64 d.smith]), ⟨fun v W => ∃ m, v = .pointer (some ⟨m, 0, none⟩) ∧ w.heap.size + 2 ≤ m ∧ W.heap[m]? = some (.cells #[.int .i64 0, .int .i64 0, .int .i64 0, .int .i64 0, .int .i64 0] 55), fun _ _ _ ⟨m, h1, h2, h3⟩ hb => ⟨m, h1, h2, (hb.block m (heap_lt h3)).trans h3⟩⟩] (by kernel_rfl) (by kernel_rfl) (by kernel_rfl) rfl (by decide) (by decide) (by simp) ?step ?rest
    case step =>
      intro i ac W d hi hd hb hoff hdep
      have hs := HS1.out.next hb
      obtain ⟨c0, c1, c2⟩ := hs.cells
      have ht := (hb.block _ (heap_lt HT1.out)).trans HT1.out
      obtain ⟨s0, s1, s2, s3, s4⟩ := box5j ht
      obtain ⟨d0, d1, d2, d3, d4⟩ := HD0.out.below hs.b hbw
      have hgc := (hb.cell (p := ⟨g, p, none⟩) hgl).trans HGC.out
      have hi2 : i = 0 ∨ i = 1 ∨ i = 2 ∨ i = 3 ∨ i = 4 ∨ i = 5 ∨ i = 6 ∨ i = 7 ∨ i = 8 ∨ i = 9 ∨ i = 10 ∨ i = 11 ∨ i = 12 ∨ i = 13 ∨ i = 14 ∨ i = 15 ∨ i = 16 ∨ i = 17 ∨ i = 18 := by omega
      rcases hi2 with rfl | rfl | rfl | rfl | rfl | rfl | rfl | rfl | rfl | rfl | rfl | rfl | rfl | rfl | rfl | rfl | rfl | rfl | rfl
      · obtain rfl : 16 = d := by simpa using hd
        have q3 : ac.tmps[3]?.getD undef = .pointer (some ⟨w.heap.size, 0, none⟩) := (eval_tmp _ _).symm.trans <| (hoff 3 (by decide)).trans rfl
        refine fact_value rfl rfl rfl (v := .pointer (some ⟨w.heap.size, 0, none⟩)) (W' := W) ?_ (Below.refl _ _) rfl
        simp only [execOp, q3]
        go_simp
      · obtain rfl : 17 = d := by simpa using hd
        have q16 : ac.tmps[16]?.getD undef = .pointer (some ⟨w.heap.size, 0, none⟩) := (eval_tmp _ _).symm.trans (hdep 0 16 rfl rfl)
        refine fact_value rfl rfl rfl (v := .slice (some ⟨b, off, none⟩) C.deeds.length cap) (W' := W) ?_ (Below.refl _ _) rfl
        simp only [execOp, q16]
        go_simp
      · obtain rfl : 18 = d := by simpa using hd
        have q3 : ac.tmps[3]?.getD undef = .pointer (some ⟨w.heap.size, 0, none⟩) := (eval_tmp _ _).symm.trans <| (hoff 3 (by decide)).trans rfl
        refine fact_value rfl rfl rfl (v := .agg #[.slice (some ⟨b, off, none⟩) C.deeds.length cap, .slice a2 C.sights.length cap2, .int .i64 C.wrong]) (W' := W) ?_ (Below.refl _ _) rfl
        simp only [execOp, q3]
        go_simp
      · obtain rfl : 19 = d := by simpa using hd
        have q18 : ac.tmps[18]?.getD undef = .agg #[.slice (some ⟨b, off, none⟩) C.deeds.length cap, .slice a2 C.sights.length cap2, .int .i64 C.wrong] := (eval_tmp _ _).symm.trans (hdep 2 18 rfl rfl)
        refine fact_call rfl rfl rfl (f := 54) (args := #[.agg #[.slice (some ⟨b, off, none⟩) C.deeds.length cap, .slice a2 C.sights.length cap2, .int .i64 C.wrong]]) ?_ ?_
        · simp only [execOp, q18]
          go_simp
        · refine (Welds_o _ C W HN40.out hs.st).mono ?_
          rintro e W' ⟨q, rfl, hls, hbk⟩
          exact ⟨q, rfl, hbk, hls⟩
      · obtain rfl : 20 = d := by simpa using hd
        have q7 : ac.tmps[7]?.getD undef = .slice (some ⟨g, 0, none⟩) M c := (eval_tmp _ _).symm.trans <| (hoff 7 (by decide)).trans rfl
        refine fact_value rfl rfl rfl (v := .slice (some ⟨g, 0, none⟩) M c) (W' := W) ?_ (Below.refl _ _) rfl
        simp only [execOp, q7]
        go_simp
      · obtain rfl : 21 = d := by simpa using hd
        have q4 : ac.tmps[4]?.getD undef = .pointer (some ⟨w.heap.size + 1, 0, none⟩) := (eval_tmp _ _).symm.trans <| (hoff 4 (by decide)).trans rfl
        refine fact_value rfl rfl rfl (v := .pointer (some ⟨w.heap.size + 1, 1, none⟩)) (W' := W) ?_ (Below.refl _ _) rfl
        simp only [execOp, q4]
        go_simp
      · obtain rfl : 22 = d := by simpa using hd
        have q21 : ac.tmps[21]?.getD undef = .pointer (some ⟨w.heap.size + 1, 1, none⟩) := (eval_tmp _ _).symm.trans (hdep 5 21 rfl rfl)
        refine fact_value rfl rfl rfl (v := .int .i64 s.at_) (W' := W) ?_ (Below.refl _ _) rfl
        simp only [execOp, q21]
        go_simp
      · obtain rfl : 23 = d := by simpa using hd
        have q4 : ac.tmps[4]?.getD undef = .pointer (some ⟨w.heap.size + 1, 0, none⟩) := (eval_tmp _ _).symm.trans <| (hoff 4 (by decide)).trans rfl
        refine fact_value rfl rfl rfl (v := .pointer (some ⟨w.heap.size + 1, 2, none⟩)) (W' := W) ?_ (Below.refl _ _) rfl
        simp only [execOp, q4]
        go_simp
      · obtain rfl : 24 = d := by simpa using hd
        have q23 : ac.tmps[23]?.getD undef = .pointer (some ⟨w.heap.size + 1, 2, none⟩) := (eval_tmp _ _).symm.trans (hdep 7 23 rfl rfl)
        refine fact_value rfl rfl rfl (v := .int .i64 s.from_) (W' := W) ?_ (Below.refl _ _) rfl
        simp only [execOp, q23]
        go_simp
      · obtain rfl : 25 = d := by simpa using hd
        have q7 : ac.tmps[7]?.getD undef = .slice (some ⟨g, 0, none⟩) M c := (eval_tmp _ _).symm.trans <| (hoff 7 (by decide)).trans rfl
        refine fact_value rfl rfl rfl (v := .slice (some ⟨g, 0, none⟩) M c) (W' := W) ?_ (Below.refl _ _) rfl
        simp only [execOp, q7]
        go_simp
      · obtain rfl : 26 = d := by simpa using hd
        have q25 : ac.tmps[25]?.getD undef = .slice (some ⟨g, 0, none⟩) M c := (eval_tmp _ _).symm.trans (hdep 9 25 rfl rfl)
        refine fact_value rfl rfl rfl (v := .int .i64 (M : Int)) (W' := W) ?_ (Below.refl _ _) rfl
        simp only [execOp, q25]
        go_simp
      · obtain rfl : 27 = d := by simpa using hd
        have q22 : ac.tmps[22]?.getD undef = .int .i64 s.at_ := (eval_tmp _ _).symm.trans (hdep 6 22 rfl rfl)
        have q24 : ac.tmps[24]?.getD undef = .int .i64 s.from_ := (eval_tmp _ _).symm.trans (hdep 8 24 rfl rfl)
        have q26 : ac.tmps[26]?.getD undef = .int .i64 (M : Int) := (eval_tmp _ _).symm.trans (hdep 10 26 rfl rfl)
        refine fact_call rfl rfl rfl (f := 118) (args := #[.int .i64 s.at_, .int .i64 s.from_, .int .i64 (M : Int)]) ?_ ?_
        · simp only [execOp, q22, q24, q26]
          go_simp
        · refine (HFH.out W).mono ?_
          rintro e W' ⟨rfl, rfl⟩
          exact ⟨_, rfl, Below.refl _ _, rfl⟩
      · obtain rfl : 28 = d := by simpa using hd
        have q20 : ac.tmps[20]?.getD undef = .slice (some ⟨g, 0, none⟩) M c := (eval_tmp _ _).symm.trans (hdep 4 20 rfl rfl)
        have q27 : ac.tmps[27]?.getD undef = .int .i64 (p : Int) := (eval_tmp _ _).symm.trans (hdep 11 27 rfl rfl)
        refine fact_value rfl rfl rfl (v := .pointer (some ⟨g, p, none⟩)) (W' := W) ?_ (Below.refl _ _) rfl
        simp only [execOp, q20, q27]
        go_simp
      · obtain rfl : 29 = d := by simpa using hd
        have q28 : ac.tmps[28]?.getD undef = .pointer (some ⟨g, p, none⟩) := (eval_tmp _ _).symm.trans (hdep 12 28 rfl rfl)
        refine fact_value rfl rfl rfl (v := .int .i64 (q : Int)) (W' := W) ?_ (Below.refl _ _) rfl
        simp only [execOp, q28]
        go_simp
      · obtain rfl : 30 = d := by simpa using hd
        have q19 : OwnInts W (ac.tmps[19]?.getD undef) (weldIx C.deeds C.deeds.length) := eval_tmp ac _ ▸ hdep 3 19 rfl rfl
        have q29 : ac.tmps[29]?.getD undef = .int .i64 (q : Int) := (eval_tmp _ _).symm.trans (hdep 13 29 rfl rfl)
        obtain ⟨g, c, hq, hcell⟩ := q19.at ((show q < (weldIx C.deeds C.deeds.length).length by rw [weldIx_len]; exact HQW.out))
        rw [HJ.out] at hcell
        have i1 : (0 : Int) ≤ (q : Nat) := by omega
        have i2 : ((q : Nat) : Int) < ((weldIx C.deeds C.deeds.length).length : Int) := by have := (show q < (weldIx C.deeds C.deeds.length).length by rw [weldIx_len]; exact HQW.out); omega
        refine fact_value rfl rfl rfl (v := .pointer (some ⟨g, q, none⟩)) (W' := W) ?_ (Below.refl _ _) ⟨g, rfl, hcell⟩
        simp only [execOp, q29, hq]
        go_simp
      · obtain rfl : 31 = d := by simpa using hd
        have q30 : ∃ g, (ac.tmps[30]?.getD undef) = .pointer (some ⟨g, q, none⟩) ∧ W.cell? ⟨g, q, none⟩ = some (.int .i64 (j : Int)) := eval_tmp ac _ ▸ hdep 14 30 rfl rfl
        obtain ⟨g, hq, hcell⟩ := q30
        refine fact_value rfl rfl rfl (v := .int .i64 (j : Int)) (W' := W) ?_ (Below.refl _ _) rfl
        simp only [execOp, hq]
        go_simp
      · obtain rfl : 32 = d := by simpa using hd
        have q17 : ac.tmps[17]?.getD undef = .slice (some ⟨b, off, none⟩) C.deeds.length cap := (eval_tmp _ _).symm.trans (hdep 1 17 rfl rfl)
        have q31 : ac.tmps[31]?.getD undef = .int .i64 (j : Int) := (eval_tmp _ _).symm.trans (hdep 15 31 rfl rfl)
        refine fact_value rfl rfl rfl (v := .pointer (some ⟨b, off + j * 5, none⟩)) (W' := W) ?_ (Below.refl _ _) rfl
        simp only [execOp, q17, q31]
        go_simp
      · obtain rfl : 33 = d := by simpa using hd
        have q32 : ac.tmps[32]?.getD undef = .pointer (some ⟨b, off + j * 5, none⟩) := (eval_tmp _ _).symm.trans (hdep 16 32 rfl rfl)
        refine fact_value rfl rfl rfl (v := .agg #[.int .i64 d.what, .int .i64 d.at_, .int .i64 d.from_, .int .i64 d.bar, .int .i64 d.smith]) (W' := W) ?_ (Below.refl _ _) rfl
        simp only [execOp, q32]
        go_simp
      · obtain rfl : 8 = d := by simpa using hd
        refine fact_value rfl rfl rfl (v := .pointer (some ⟨W.heap.size, 0, none⟩)) (W' := W.alloc (.cells #[.int .i64 0, .int .i64 0, .int .i64 0, .int .i64 0, .int .i64 0] 55)) ?_ ((Below.refl _ _).alloc (Nat.le_refl _) _) ⟨_, rfl, by have := hb.size; omega, heap_new _ _⟩
        simp only [execOp]
        go_simp
    case rest =>
      intro vs W2 hvl hb2 hval
      obtain ⟨x0, x1, x2, x3, x4, x5, x6, x7, x8, x9, x10, x11, x12, x13, x14, x15, x16, x17, x18, rfl⟩ : ∃ x0 x1 x2 x3 x4 x5 x6 x7 x8 x9 x10 x11 x12 x13 x14 x15 x16 x17 x18, vs = [x0, x1, x2, x3, x4, x5, x6, x7, x8, x9, x10, x11, x12, x13, x14, x15, x16, x17, x18] := by
        match vs, hvl with
        | [x0, x1, x2, x3, x4, x5, x6, x7, x8, x9, x10, x11, x12, x13, x14, x15, x16, x17, x18], _ => exact ⟨x0, x1, x2, x3, x4, x5, x6, x7, x8, x9, x10, x11, x12, x13, x14, x15, x16, x17, x18, rfl⟩
      obtain rfl : x0 = .pointer (some ⟨w.heap.size, 0, none⟩) := by obtain ⟨u, e, h⟩ := hval 0 (by omega); simp only [List.getElem?_cons_zero, List.getElem?_cons_succ, Option.some.injEq] at e; subst e; exact h
      obtain rfl : x1 = .slice (some ⟨b, off, none⟩) C.deeds.length cap := by obtain ⟨u, e, h⟩ := hval 1 (by omega); simp only [List.getElem?_cons_zero, List.getElem?_cons_succ, Option.some.injEq] at e; subst e; exact h
      obtain rfl : x2 = .agg #[.slice (some ⟨b, off, none⟩) C.deeds.length cap, .slice a2 C.sights.length cap2, .int .i64 C.wrong] := by obtain ⟨u, e, h⟩ := hval 2 (by omega); simp only [List.getElem?_cons_zero, List.getElem?_cons_succ, Option.some.injEq] at e; subst e; exact h
      have k3 : OwnInts W2 x3 (weldIx C.deeds C.deeds.length) := by obtain ⟨u, e, h⟩ := hval 3 (by omega); simp only [List.getElem?_cons_zero, List.getElem?_cons_succ, Option.some.injEq] at e; subst e; exact h
      obtain rfl : x4 = .slice (some ⟨g, 0, none⟩) M c := by obtain ⟨u, e, h⟩ := hval 4 (by omega); simp only [List.getElem?_cons_zero, List.getElem?_cons_succ, Option.some.injEq] at e; subst e; exact h
      obtain rfl : x5 = .pointer (some ⟨w.heap.size + 1, 1, none⟩) := by obtain ⟨u, e, h⟩ := hval 5 (by omega); simp only [List.getElem?_cons_zero, List.getElem?_cons_succ, Option.some.injEq] at e; subst e; exact h
      obtain rfl : x6 = .int .i64 s.at_ := by obtain ⟨u, e, h⟩ := hval 6 (by omega); simp only [List.getElem?_cons_zero, List.getElem?_cons_succ, Option.some.injEq] at e; subst e; exact h
      obtain rfl : x7 = .pointer (some ⟨w.heap.size + 1, 2, none⟩) := by obtain ⟨u, e, h⟩ := hval 7 (by omega); simp only [List.getElem?_cons_zero, List.getElem?_cons_succ, Option.some.injEq] at e; subst e; exact h
      obtain rfl : x8 = .int .i64 s.from_ := by obtain ⟨u, e, h⟩ := hval 8 (by omega); simp only [List.getElem?_cons_zero, List.getElem?_cons_succ, Option.some.injEq] at e; subst e; exact h
      obtain rfl : x9 = .slice (some ⟨g, 0, none⟩) M c := by obtain ⟨u, e, h⟩ := hval 9 (by omega); simp only [List.getElem?_cons_zero, List.getElem?_cons_succ, Option.some.injEq] at e; subst e; exact h
      obtain rfl : x10 = .int .i64 (M : Int) := by obtain ⟨u, e, h⟩ := hval 10 (by omega); simp only [List.getElem?_cons_zero, List.getElem?_cons_succ, Option.some.injEq] at e; subst e; exact h
      obtain rfl : x11 = .int .i64 (p : Int) := by obtain ⟨u, e, h⟩ := hval 11 (by omega); simp only [List.getElem?_cons_zero, List.getElem?_cons_succ, Option.some.injEq] at e; subst e; exact h
      obtain rfl : x12 = .pointer (some ⟨g, p, none⟩) := by obtain ⟨u, e, h⟩ := hval 12 (by omega); simp only [List.getElem?_cons_zero, List.getElem?_cons_succ, Option.some.injEq] at e; subst e; exact h
      obtain rfl : x13 = .int .i64 (q : Int) := by obtain ⟨u, e, h⟩ := hval 13 (by omega); simp only [List.getElem?_cons_zero, List.getElem?_cons_succ, Option.some.injEq] at e; subst e; exact h
      have k14 : ∃ g, x14 = .pointer (some ⟨g, q, none⟩) ∧ W2.cell? ⟨g, q, none⟩ = some (.int .i64 (j : Int)) := by obtain ⟨u, e, h⟩ := hval 14 (by omega); simp only [List.getElem?_cons_zero, List.getElem?_cons_succ, Option.some.injEq] at e; subst e; exact h
      obtain rfl : x15 = .int .i64 (j : Int) := by obtain ⟨u, e, h⟩ := hval 15 (by omega); simp only [List.getElem?_cons_zero, List.getElem?_cons_succ, Option.some.injEq] at e; subst e; exact h
      obtain rfl : x16 = .pointer (some ⟨b, off + j * 5, none⟩) := by obtain ⟨u, e, h⟩ := hval 16 (by omega); simp only [List.getElem?_cons_zero, List.getElem?_cons_succ, Option.some.injEq] at e; subst e; exact h
      obtain rfl : x17 = .agg #[.int .i64 d.what, .int .i64 d.at_, .int .i64 d.from_, .int .i64 d.bar, .int .i64 d.smith] := by obtain ⟨u, e, h⟩ := hval 17 (by omega); simp only [List.getElem?_cons_zero, List.getElem?_cons_succ, Option.some.injEq] at e; subst e; exact h
      have k18 : ∃ m, x18 = .pointer (some ⟨m, 0, none⟩) ∧ w.heap.size + 2 ≤ m ∧ W2.heap[m]? = some (.cells #[.int .i64 0, .int .i64 0, .int .i64 0, .int .i64 0, .int .i64 0] 55) := by obtain ⟨u, e, h⟩ := hval 18 (by omega); simp only [List.getElem?_cons_zero, List.getElem?_cons_succ, Option.some.injEq] at e; subst e; exact h
      clear hval hvl
      obtain ⟨m, rfl, hml, hmb⟩ := k18
      obtain ⟨⟨m0, m1, m2, m3, m4⟩, mf⟩ := box5f_of hmb
      have mf0 := mf 0
      have mf1 := mf 1
      have mf2 := mf 2
      have mf3 := mf 3
      have mf4 := mf 4
      have HMB := Lib.hid hmb
      have HB2 := Lib.hid ((HS1.out.next hb2).b)
      have HT2 := Lib.hid ((hb2.block _ (heap_lt HT1.out)).trans HT1.out)
      clear k3 k14 hb2 mf hmb
      simp only [putL, Act.put, List.drop, List.length_cons, List.length_nil, Nat.reduceAdd, List.setIfInBounds_toArray, List.set_cons_zero, List.set_cons_succ]
      go_upto_region 3 with fail
      obtain ⟨Y, hY⟩ : ∃ Y, Y = put5 W2 m (.int .i64 d.what) (.int .i64 d.at_) (.int .i64 d.from_) (.int .i64 d.bar) (.int .i64 d.smith) := ⟨_, rfl⟩
      have hYm : Y.heap[m]? = some (.cells #[.int .i64 d.what, .int .i64 d.at_, .int .i64 d.from_, .int .i64 d.bar, .int .i64 d.smith] 55) := by rw [hY]; exact put5_heap HMB.out
      have hYb : Below (w.heap.size + 2) W2 Y := by rw [hY]; exact put5_below (Below.refl _ _) (by omega)
      have hYt := (hYb.block (w.heap.size + 1) (by omega)).trans HT2.out
      have hYB : Below w.heap.size w Y := HB2.out.trans (hYb.mono (by omega))
      unfold put5 at hY
      rw [← hY]
      clear hY m0 m1 m2 m3 m4 mf0 mf1 mf2 mf3 mf4
      obtain ⟨m0, m1, m2, m3, m4⟩ := box5j hYm
      obtain ⟨s0, s1, s2, s3, s4⟩ := box5j hYt
      have HBW := Lib.hid hYB
      clear hYm hYt hYB hYb
      by_cases hb1 : s.bar < 0
      · by_cases hs1 : s.smith < 0
        · go_wp2_with fail
          go_ret
          exact ⟨ret_bool (by rw [HR.out, Bool.eq_iff_iff]; first | (simp; done) | (simp; omega)), HBW.out⟩
        · by_cases hs2 : s.smith = d.smith
          · go_wp2_with fail
            go_ret
            exact ⟨ret_bool (by rw [HR.out, Bool.eq_iff_iff]; first | (simp; done) | (simp; omega)), HBW.out⟩
          · go_wp2_with fail
            go_ret
            exact ⟨ret_bool (by rw [HR.out, Bool.eq_iff_iff]; first | (simp; done) | (simp; omega)), HBW.out⟩
      · by_cases hb2 : s.bar = d.bar
        · by_cases hs1 : s.smith < 0
          · go_wp2_with fail
            go_ret
            exact ⟨ret_bool (by rw [HR.out, Bool.eq_iff_iff]; first | (simp; done) | (simp; omega)), HBW.out⟩
          · by_cases hs2 : s.smith = d.smith
            · go_wp2_with fail
              go_ret
              exact ⟨ret_bool (by rw [HR.out, Bool.eq_iff_iff]; first | (simp; done) | (simp; omega)), HBW.out⟩
            · go_wp2_with fail
              go_ret
              exact ⟨ret_bool (by rw [HR.out, Bool.eq_iff_iff]; first | (simp; done) | (simp; omega)), HBW.out⟩
        · go_wp2_with fail
          go_ret
          exact ⟨ret_bool (by rw [HR.out, Bool.eq_iff_iff]; first | (simp; done) | (simp; omega)), HBW.out⟩

end Go.Proofs.Ythclinhikhinpaa

namespace Go.Proofs.Ythclinhikhinpaa
open Go.RowKit Go.Shelf

theorem Right_to {v u : Value} {C : Chain} {s : Sight} {ends : List Int} {w : World} {r : Bool} (h : rightB C.deeds ends s = r) (hV : validB C = true) (hl : ends.length = C.deeds.length) (hsr : sightAll C.deeds s = true) (hx : ChainAt w.heap.size w v C) (hu : IntsAt w.heap.size w u ends) :
    Calls Try.prog 97 #[v, sV s, u] w fun e w' => e = .returned (.bool r) ∧ Below w.heap.size w w' := h ▸ Right_any v u C s ends w hV hl hsr hx hu
theorem wrongs_right {C : Chain} {ends : List Int} {k : Nat} (h : rightB C.deeds ends (snth C.sights k) = true) : wrongsTo C ends (k + 1) = wrongsTo C ends k := by simp only [wrongsTo, h, if_true]; omega
theorem wrongs_not {C : Chain} {ends : List Int} {k : Nat} (h : rightB C.deeds ends (snth C.sights k) = false) : wrongsTo C ends (k + 1) = wrongsTo C ends k + 1 := by simp [wrongsTo, h]

set_option maxRecDepth 100000 in
set_option maxHeartbeats 8000000 in
theorem Wrongs_any (v u : Value) (C : Chain) (ends : List Int) (w : World) (hV : validB C = true) (hl : ends.length = C.deeds.length) (hx : ChainAt w.heap.size w v C) (hu : IntsAt w.heap.size w u ends) :
    Calls Try.prog 49 #[v, u] w fun e w' => e = .returned (.int .i64 (wrongs C ends)) ∧ Below w.heap.size w w' := by
  have hx' := hx
  obtain ⟨a, cap, b, off, a2, cap2, b2, off2, rfl, hm, hm2, hcap, hcapm, HA, HC, HA2, HC2, HI, HI2⟩ := hx.opened
  have hu' := hu
  obtain ⟨ua, ucap, ub, uoff, rfl, hum, HUA, HUC, HUI⟩ := hu.opened
  have hV' := valid_iff.1 hV
  have hnd := hV'.nd
  have hns := hV'.ns
  have HS0 := Lib.hid (LStat.first hx')
  have HU := Lib.hid hu'
  have HL := Lib.hid hl
  have HV := Lib.hid hV
  have HV' := Lib.hid hV'
  have HN40 := Lib.hid (show C.deeds.length ≤ 40 by omega)
  obtain ⟨c0, c1, c2⟩ := HS0.out.cells
  clear hx hx' HI HI2 hu hu' hV hV' hl HA HC HUA HUC HUI
  go_enter Try.func49, Try.ntmps49
  go_wp2
  go_loopw [5, 6] (fun n i wr => ∃ k : Nat, k ≤ C.sights.length ∧ i = .int .i64 k ∧ n = .int .i64 (wrongsTo C ends k) ∧ Hid (Below (w.heap.size + 1) (w.alloc (.cells #[.slice a C.deeds.length cap, .slice a2 C.sights.length cap2, .int .i64 C.wrong] 25)) wr)) (fun _ i _ => C.sights.length - (intOf i).toNat)
  case atStart => exact ⟨0, Nat.zero_le _, rfl, rfl, Below.refl _ _⟩
  case round =>
    obtain ⟨k, hk, rfl, rfl, hbl⟩ := hrel
    clear c0 c1 c2
    have hw1 := hbl.out.mono (Nat.le_refl (w.heap.size + 1))
    have HSR := Lib.hid (HS0.out.next (by rw [World.size_alloc]; exact hbl.out))
    obtain ⟨c0, c1, c2⟩ := HSR.out.cells
    have hwt := wrongsTo_le C ends k
    by_cases hlt : k < C.sights.length
    · obtain ⟨rfl, hb2⟩ := HA2.out (by omega)
      have HSI := Lib.hid ((HC2.out k hlt).below HSR.out.b hb2)
      have HSO := Lib.hid (HV'.out.sight k hlt)
      obtain ⟨s, hs⟩ : ∃ s, snth C.sights k = s := ⟨_, rfl⟩
      obtain ⟨r, hr⟩ : ∃ r, rightB C.deeds ends (snth C.sights k) = r := ⟨_, rfl⟩
      have HR := Lib.hid hr
      rw [hs] at hr HSI HSO
      have HRS := Lib.hid hr
      have hb2r : b2 < wr.heap.size := by have := HSR.out.b.size; omega
      have hk0 : (0 : Int) ≤ (k : Nat) := by omega
      have hk1 : ((k : Nat) : Int) < (C.sights.length : Int) := by omega
      clear hr hs hw1
      go_upto_region 5 with fail
      clear c0 c1 c2
      refine wp_region_facts _ 9 [14, 15, 16, 17, 18, 19, 20, 21, 22] [isV (.agg #[.slice a C.deeds.length cap, .slice (some ⟨b2, off2, none⟩) C.sights.length cap2, .int .i64 C.wrong]), isV (.pointer (some ⟨w.heap.size, 1, none⟩)), isV (.slice (some ⟨b2, off2, none⟩) C.sights.length cap2), isV (.int .i64 (k : Int)), isV (.pointer (some ⟨b2, off2 + k * 5, none⟩)), isV (.agg #[.int .i64 s.after, .int .i64 s.at_, .int .i64 s.from_, .int .i64 s.bar, .int .i64 s.smith]), isV (.slice ua ends.length ucap), isV (.bool r), isV (.bool (!r))] (by kernel_rfl) (by kernel_rfl) (by kernel_rfl) rfl (by decide) (by decide) (by simp) ?step ?rest
      case step =>
        intro i ac W d hi hd hb hoff hdep
        have hs := HSR.out.next hb
        obtain ⟨c0, c1, c2⟩ := hs.cells
        obtain ⟨s0, s1, s2, s3, s4⟩ := HSI.out.below hb hb2r
        have hi2 : i = 0 ∨ i = 1 ∨ i = 2 ∨ i = 3 ∨ i = 4 ∨ i = 5 ∨ i = 6 ∨ i = 7 ∨ i = 8 := by omega
        rcases hi2 with rfl | rfl | rfl | rfl | rfl | rfl | rfl | rfl | rfl
        · obtain rfl : 14 = d := by simpa using hd
          have q2 : ac.tmps[2]?.getD undef = .pointer (some ⟨w.heap.size, 0, none⟩) := (eval_tmp _ _).symm.trans <| (hoff 2 (by decide)).trans rfl
          refine fact_value rfl rfl rfl (v := .agg #[.slice a C.deeds.length cap, .slice (some ⟨b2, off2, none⟩) C.sights.length cap2, .int .i64 C.wrong]) (W' := W) ?_ (Below.refl _ _) rfl
          simp only [execOp, q2]
          go_simp
        · obtain rfl : 15 = d := by simpa using hd
          have q2 : ac.tmps[2]?.getD undef = .pointer (some ⟨w.heap.size, 0, none⟩) := (eval_tmp _ _).symm.trans <| (hoff 2 (by decide)).trans rfl
          refine fact_value rfl rfl rfl (v := .pointer (some ⟨w.heap.size, 1, none⟩)) (W' := W) ?_ (Below.refl _ _) rfl
          simp only [execOp, q2]
          go_simp
        · obtain rfl : 16 = d := by simpa using hd
          have q15 : ac.tmps[15]?.getD undef = .pointer (some ⟨w.heap.size, 1, none⟩) := (eval_tmp _ _).symm.trans (hdep 1 15 rfl rfl)
          refine fact_value rfl rfl rfl (v := .slice (some ⟨b2, off2, none⟩) C.sights.length cap2) (W' := W) ?_ (Below.refl _ _) rfl
          simp only [execOp, q15]
          go_simp
        · obtain rfl : 17 = d := by simpa using hd
          have q6 : ac.tmps[6]?.getD undef = .int .i64 (k : Int) := (eval_tmp _ _).symm.trans <| (hoff 6 (by decide)).trans rfl
          refine fact_value rfl rfl rfl (v := .int .i64 (k : Int)) (W' := W) ?_ (Below.refl _ _) rfl
          simp only [execOp, q6]
          go_simp
        · obtain rfl : 18 = d := by simpa using hd
          have q16 : ac.tmps[16]?.getD undef = .slice (some ⟨b2, off2, none⟩) C.sights.length cap2 := (eval_tmp _ _).symm.trans (hdep 2 16 rfl rfl)
          have q17 : ac.tmps[17]?.getD undef = .int .i64 (k : Int) := (eval_tmp _ _).symm.trans (hdep 3 17 rfl rfl)
          refine fact_value rfl rfl rfl (v := .pointer (some ⟨b2, off2 + k * 5, none⟩)) (W' := W) ?_ (Below.refl _ _) rfl
          simp only [execOp, q16, q17]
          go_simp
        · obtain rfl : 19 = d := by simpa using hd
          have q18 : ac.tmps[18]?.getD undef = .pointer (some ⟨b2, off2 + k * 5, none⟩) := (eval_tmp _ _).symm.trans (hdep 4 18 rfl rfl)
          refine fact_value rfl rfl rfl (v := .agg #[.int .i64 s.after, .int .i64 s.at_, .int .i64 s.from_, .int .i64 s.bar, .int .i64 s.smith]) (W' := W) ?_ (Below.refl _ _) rfl
          simp only [execOp, q18]
          go_simp
        · obtain rfl : 20 = d := by simpa using hd
          have q1 : ac.tmps[1]?.getD undef = .slice ua ends.length ucap := (eval_tmp _ _).symm.trans <| (hoff 1 (by decide)).trans rfl
          refine fact_value rfl rfl rfl (v := .slice ua ends.length ucap) (W' := W) ?_ (Below.refl _ _) rfl
          simp only [execOp, q1]
          go_simp
        · obtain rfl : 21 = d := by simpa using hd
          have q14 : ac.tmps[14]?.getD undef = .agg #[.slice a C.deeds.length cap, .slice (some ⟨b2, off2, none⟩) C.sights.length cap2, .int .i64 C.wrong] := (eval_tmp _ _).symm.trans (hdep 0 14 rfl rfl)
          have q19 : ac.tmps[19]?.getD undef = .agg #[.int .i64 s.after, .int .i64 s.at_, .int .i64 s.from_, .int .i64 s.bar, .int .i64 s.smith] := (eval_tmp _ _).symm.trans (hdep 5 19 rfl rfl)
          have q20 : ac.tmps[20]?.getD undef = .slice ua ends.length ucap := (eval_tmp _ _).symm.trans (hdep 6 20 rfl rfl)
          refine fact_call rfl rfl rfl (f := 97) (args := #[.agg #[.slice a C.deeds.length cap, .slice (some ⟨b2, off2, none⟩) C.sights.length cap2, .int .i64 C.wrong], .agg #[.int .i64 s.after, .int .i64 s.at_, .int .i64 s.from_, .int .i64 s.bar, .int .i64 s.smith], .slice ua ends.length ucap]) ?_ ?_
          · simp only [execOp, q14, q19, q20]
            go_simp
          · refine (Right_to HRS.out HV.out HL.out HSO.out hs.st ((HU.out.below hs.b).mono hs.b.size)).mono ?_
            rintro e W' ⟨rfl, hbk⟩
            exact ⟨_, rfl, hbk, rfl⟩
        · obtain rfl : 22 = d := by simpa using hd
          have q21 : ac.tmps[21]?.getD undef = .bool r := (eval_tmp _ _).symm.trans (hdep 7 21 rfl rfl)
          refine fact_value rfl rfl rfl (v := .bool (!r)) (W' := W) ?_ (Below.refl _ _) rfl
          simp only [execOp, q21]
          go_simp
      case rest =>
        intro vs W2 hvl hbx hval
        obtain ⟨x0, x1, x2, x3, x4, x5, x6, x7, x8, rfl⟩ : ∃ x0 x1 x2 x3 x4 x5 x6 x7 x8, vs = [x0, x1, x2, x3, x4, x5, x6, x7, x8] := by
          match vs, hvl with
          | [x0, x1, x2, x3, x4, x5, x6, x7, x8], _ => exact ⟨x0, x1, x2, x3, x4, x5, x6, x7, x8, rfl⟩
        obtain rfl : x0 = .agg #[.slice a C.deeds.length cap, .slice (some ⟨b2, off2, none⟩) C.sights.length cap2, .int .i64 C.wrong] := by obtain ⟨u, e, h⟩ := hval 0 (by omega); simp only [List.getElem?_cons_zero, List.getElem?_cons_succ, Option.some.injEq] at e; subst e; exact h
        obtain rfl : x1 = .pointer (some ⟨w.heap.size, 1, none⟩) := by obtain ⟨u, e, h⟩ := hval 1 (by omega); simp only [List.getElem?_cons_zero, List.getElem?_cons_succ, Option.some.injEq] at e; subst e; exact h
        obtain rfl : x2 = .slice (some ⟨b2, off2, none⟩) C.sights.length cap2 := by obtain ⟨u, e, h⟩ := hval 2 (by omega); simp only [List.getElem?_cons_zero, List.getElem?_cons_succ, Option.some.injEq] at e; subst e; exact h
        obtain rfl : x3 = .int .i64 (k : Int) := by obtain ⟨u, e, h⟩ := hval 3 (by omega); simp only [List.getElem?_cons_zero, List.getElem?_cons_succ, Option.some.injEq] at e; subst e; exact h
        obtain rfl : x4 = .pointer (some ⟨b2, off2 + k * 5, none⟩) := by obtain ⟨u, e, h⟩ := hval 4 (by omega); simp only [List.getElem?_cons_zero, List.getElem?_cons_succ, Option.some.injEq] at e; subst e; exact h
        obtain rfl : x5 = .agg #[.int .i64 s.after, .int .i64 s.at_, .int .i64 s.from_, .int .i64 s.bar, .int .i64 s.smith] := by obtain ⟨u, e, h⟩ := hval 5 (by omega); simp only [List.getElem?_cons_zero, List.getElem?_cons_succ, Option.some.injEq] at e; subst e; exact h
        obtain rfl : x6 = .slice ua ends.length ucap := by obtain ⟨u, e, h⟩ := hval 6 (by omega); simp only [List.getElem?_cons_zero, List.getElem?_cons_succ, Option.some.injEq] at e; subst e; exact h
        obtain rfl : x7 = .bool r := by obtain ⟨u, e, h⟩ := hval 7 (by omega); simp only [List.getElem?_cons_zero, List.getElem?_cons_succ, Option.some.injEq] at e; subst e; exact h
        obtain rfl : x8 = .bool (!r) := by obtain ⟨u, e, h⟩ := hval 8 (by omega); simp only [List.getElem?_cons_zero, List.getElem?_cons_succ, Option.some.injEq] at e; subst e; exact h
        clear hval hvl
        have HBX := Lib.hid (hbl.out.trans (hbx.mono (by have := hbl.out.size; simpa using this)))
        clear hbx
        simp only [putL, Act.put, List.drop, List.length_cons, List.length_nil, Nat.reduceAdd, List.setIfInBounds_toArray, List.set_cons_zero, List.set_cons_succ]
        cases r
        · go_wp2
          exact ⟨⟨k + 1, by omega, by go_num, by rw [wrongs_not HR.out], HBX⟩, by simp [intOf]; omega⟩
        · go_wp2
          exact ⟨⟨k + 1, by omega, by go_num, by rw [wrongs_right HR.out], HBX⟩, by simp [intOf]; omega⟩
    · obtain rfl : C.sights.length = k := by omega
      go_wp2
      go_ret
      exact ⟨rfl, HSR.out.b⟩
theorem Wrongs_to {v u : Value} {C : Chain} {ends : List Int} {w : World} {x : Int} (h : wrongs C ends = x) (hV : validB C = true) (hl : ends.length = C.deeds.length) (hx : ChainAt w.heap.size w v C) (hu : IntsAt w.heap.size w u ends) :
    Calls Try.prog 49 #[v, u] w fun e w' => e = .returned (.int .i64 x) ∧ Below w.heap.size w w' := h ▸ Wrongs_any v u C ends w hV hl hx hu
theorem IsChoice_to {v u : Value} {C : Chain} {ends : List Int} {w : World} {r : Bool} (h : endsB C.deeds ends = r) (hn : C.deeds.length ≤ 40) (hx : ChainAt w.heap.size w v C) (hu : IntsAt w.heap.size w u ends) :
    Calls Try.prog 95 #[v, u] w fun e w' => e = .returned (.bool r) ∧ Below w.heap.size w w' := h ▸ IsChoice_any v u C ends w hn hx hu

/-- Whether ends are a truth. -/
def truthB (C : Chain) (ends : List Int) : Bool := endsB C.deeds ends && decide (wrongs C ends ≤ C.wrong)
theorem ends_len {ds : List Deed} {ends : List Int} (h : endsB ds ends = true) : ends.length = ds.length := by
  simp only [endsB, Bool.and_eq_true, decide_eq_true_eq] at h
  exact h.1

set_option maxRecDepth 100000 in
set_option maxHeartbeats 8000000 in
theorem IsTruth_any (v u : Value) (C : Chain) (ends : List Int) (w : World) (hV : validB C = true) (hx : ChainAt w.heap.size w v C) (hu : IntsAt w.heap.size w u ends) :
    Calls Try.prog 45 #[v, u] w fun e w' => e = .returned (.bool (truthB C ends)) ∧ Below w.heap.size w w' := by
  have hx' := hx
  obtain ⟨a, cap, b, off, a2, cap2, b2, off2, rfl, hm, hm2, hcap, hcapm, HA, HC, HA2, HC2, HI, HI2⟩ := hx.opened
  have hu' := hu
  obtain ⟨ua, ucap, ub, uoff, rfl, hum, HUA, HUC, HUI⟩ := hu.opened
  have hV' := valid_iff.1 hV
  have hnd := hV'.nd
  have hns := hV'.ns
  have HS0 := Lib.hid (LStat.first hx')
  have HU := Lib.hid hu'
  have HV := Lib.hid hV
  have HV' := Lib.hid hV'
  have HN40 := Lib.hid (show C.deeds.length ≤ 40 by omega)
  clear hx hx' HI HI2 HA2 HC2 hu hu' hV hV' HA HC HUA HUC HUI
  go_enter Try.func45, Try.ntmps45
  cases he : endsB C.deeds ends
  · have HE := Lib.hid he
    clear he
    go_upto_region 1 with fail
    refine wp_region_facts _ 12 [5, 6, 7, 8, 9, 10, 11, 12, 13, 14, 15, 4] [isV (.agg #[.slice a C.deeds.length cap, .slice a2 C.sights.length cap2, .int .i64 C.wrong]), isV (.slice ua ends.length ucap), isV (.bool false), isV (.bool false), isV (undef), isV (undef), isV (undef), isV (undef), isV (undef), isV (undef), isV (.bool false), isV (.bool false)] (by kernel_rfl) (by kernel_rfl) (by kernel_rfl) rfl (by decide) (by decide) (by simp) ?step ?rest
    case step =>
      intro i ac W d hi hd hb hoff hdep
      have hs := HS0.out.next hb
      obtain ⟨c0, c1, c2⟩ := hs.cells
      have hi2 : i = 0 ∨ i = 1 ∨ i = 2 ∨ i = 3 ∨ i = 4 ∨ i = 5 ∨ i = 6 ∨ i = 7 ∨ i = 8 ∨ i = 9 ∨ i = 10 ∨ i = 11 := by omega
      rcases hi2 with rfl | rfl | rfl | rfl | rfl | rfl | rfl | rfl | rfl | rfl | rfl | rfl
      · obtain rfl : 5 = d := by simpa using hd
        have q2 : ac.tmps[2]?.getD undef = .pointer (some ⟨w.heap.size, 0, none⟩) := (eval_tmp _ _).symm.trans <| (hoff 2 (by decide)).trans rfl
        refine fact_value rfl rfl rfl (v := .agg #[.slice a C.deeds.length cap, .slice a2 C.sights.length cap2, .int .i64 C.wrong]) (W' := W) ?_ (Below.refl _ _) rfl
        simp only [execOp, q2]
        go_simp
      · obtain rfl : 6 = d := by simpa using hd
        have q1 : ac.tmps[1]?.getD undef = .slice ua ends.length ucap := (eval_tmp _ _).symm.trans <| (hoff 1 (by decide)).trans rfl
        refine fact_value rfl rfl rfl (v := .slice ua ends.length ucap) (W' := W) ?_ (Below.refl _ _) rfl
        simp only [execOp, q1]
        go_simp
      · obtain rfl : 7 = d := by simpa using hd
        have q5 : ac.tmps[5]?.getD undef = .agg #[.slice a C.deeds.length cap, .slice a2 C.sights.length cap2, .int .i64 C.wrong] := (eval_tmp _ _).symm.trans (hdep 0 5 rfl rfl)
        have q6 : ac.tmps[6]?.getD undef = .slice ua ends.length ucap := (eval_tmp _ _).symm.trans (hdep 1 6 rfl rfl)
        refine fact_call rfl rfl rfl (f := 95) (args := #[.agg #[.slice a C.deeds.length cap, .slice a2 C.sights.length cap2, .int .i64 C.wrong], .slice ua ends.length ucap]) ?_ ?_
        · simp only [execOp, q5, q6]
          go_simp
        · refine (IsChoice_to HE.out HN40.out hs.st ((HU.out.below hs.b).mono hs.b.size)).mono ?_
          rintro e W' ⟨rfl, hbk⟩
          exact ⟨_, rfl, hbk, rfl⟩
      · obtain rfl : 8 = d := by simpa using hd
        have q7 : ac.tmps[7]?.getD undef = .bool false := (eval_tmp _ _).symm.trans (hdep 2 7 rfl rfl)
        refine fact_value rfl rfl rfl (v := .bool false) (W' := W) ?_ (Below.refl _ _) rfl
        simp only [execOp, q7]
        go_simp
      · obtain rfl : 9 = d := by simpa using hd
        have q8 : ac.tmps[8]?.getD undef = .bool false := (eval_tmp _ _).symm.trans (hdep 3 8 rfl rfl)
        exact fact_off rfl (wants_off (t := 8) rfl rfl q8) rfl rfl
      · obtain rfl : 10 = d := by simpa using hd
        have q8 : ac.tmps[8]?.getD undef = .bool false := (eval_tmp _ _).symm.trans (hdep 3 8 rfl rfl)
        exact fact_off rfl (wants_off (t := 8) rfl rfl q8) rfl rfl
      · obtain rfl : 11 = d := by simpa using hd
        have q8 : ac.tmps[8]?.getD undef = .bool false := (eval_tmp _ _).symm.trans (hdep 3 8 rfl rfl)
        exact fact_off rfl (wants_off (t := 8) rfl rfl q8) rfl rfl
      · obtain rfl : 12 = d := by simpa using hd
        have q8 : ac.tmps[8]?.getD undef = .bool false := (eval_tmp _ _).symm.trans (hdep 3 8 rfl rfl)
        exact fact_off rfl (wants_off (t := 8) rfl rfl q8) rfl rfl
      · obtain rfl : 13 = d := by simpa using hd
        have q8 : ac.tmps[8]?.getD undef = .bool false := (eval_tmp _ _).symm.trans (hdep 3 8 rfl rfl)
        exact fact_off rfl (wants_off (t := 8) rfl rfl q8) rfl rfl
      · obtain rfl : 14 = d := by simpa using hd
        have q8 : ac.tmps[8]?.getD undef = .bool false := (eval_tmp _ _).symm.trans (hdep 3 8 rfl rfl)
        exact fact_off rfl (wants_off (t := 8) rfl rfl q8) rfl rfl
      · obtain rfl : 15 = d := by simpa using hd
        have q8 : ac.tmps[8]?.getD undef = .bool false := (eval_tmp _ _).symm.trans (hdep 3 8 rfl rfl)
        have q14 : ac.tmps[14]?.getD undef = undef := (eval_tmp _ _).symm.trans (hdep 9 14 rfl rfl)
        refine fact_value rfl rfl rfl (v := .bool false) (W' := W) ?_ (Below.refl _ _) rfl
        simp only [execOp, q8, q14]
        go_simp
      · obtain rfl : 4 = d := by simpa using hd
        have q15 : ac.tmps[15]?.getD undef = .bool false := (eval_tmp _ _).symm.trans (hdep 10 15 rfl rfl)
        refine fact_value rfl rfl rfl (v := .bool false) (W' := W) ?_ (Below.refl _ _) rfl
        simp only [execOp, q15]
        go_simp
    case rest =>
      intro vs W2 hvl hbx hval
      obtain ⟨x0, x1, x2, x3, x4, x5, x6, x7, x8, x9, x10, x11, rfl⟩ : ∃ x0 x1 x2 x3 x4 x5 x6 x7 x8 x9 x10 x11, vs = [x0, x1, x2, x3, x4, x5, x6, x7, x8, x9, x10, x11] := by
        match vs, hvl with
        | [x0, x1, x2, x3, x4, x5, x6, x7, x8, x9, x10, x11], _ => exact ⟨x0, x1, x2, x3, x4, x5, x6, x7, x8, x9, x10, x11, rfl⟩
      obtain rfl : x0 = .agg #[.slice a C.deeds.length cap, .slice a2 C.sights.length cap2, .int .i64 C.wrong] := by obtain ⟨u, e, h⟩ := hval 0 (by omega); simp only [List.getElem?_cons_zero, List.getElem?_cons_succ, Option.some.injEq] at e; subst e; exact h
      obtain rfl : x1 = .slice ua ends.length ucap := by obtain ⟨u, e, h⟩ := hval 1 (by omega); simp only [List.getElem?_cons_zero, List.getElem?_cons_succ, Option.some.injEq] at e; subst e; exact h
      obtain rfl : x2 = .bool false := by obtain ⟨u, e, h⟩ := hval 2 (by omega); simp only [List.getElem?_cons_zero, List.getElem?_cons_succ, Option.some.injEq] at e; subst e; exact h
      obtain rfl : x3 = .bool false := by obtain ⟨u, e, h⟩ := hval 3 (by omega); simp only [List.getElem?_cons_zero, List.getElem?_cons_succ, Option.some.injEq] at e; subst e; exact h
      obtain rfl : x4 = undef := by obtain ⟨u, e, h⟩ := hval 4 (by omega); simp only [List.getElem?_cons_zero, List.getElem?_cons_succ, Option.some.injEq] at e; subst e; exact h
      obtain rfl : x5 = undef := by obtain ⟨u, e, h⟩ := hval 5 (by omega); simp only [List.getElem?_cons_zero, List.getElem?_cons_succ, Option.some.injEq] at e; subst e; exact h
      obtain rfl : x6 = undef := by obtain ⟨u, e, h⟩ := hval 6 (by omega); simp only [List.getElem?_cons_zero, List.getElem?_cons_succ, Option.some.injEq] at e; subst e; exact h
      obtain rfl : x7 = undef := by obtain ⟨u, e, h⟩ := hval 7 (by omega); simp only [List.getElem?_cons_zero, List.getElem?_cons_succ, Option.some.injEq] at e; subst e; exact h
      obtain rfl : x8 = undef := by obtain ⟨u, e, h⟩ := hval 8 (by omega); simp only [List.getElem?_cons_zero, List.getElem?_cons_succ, Option.some.injEq] at e; subst e; exact h
      obtain rfl : x9 = undef := by obtain ⟨u, e, h⟩ := hval 9 (by omega); simp only [List.getElem?_cons_zero, List.getElem?_cons_succ, Option.some.injEq] at e; subst e; exact h
      obtain rfl : x10 = .bool false := by obtain ⟨u, e, h⟩ := hval 10 (by omega); simp only [List.getElem?_cons_zero, List.getElem?_cons_succ, Option.some.injEq] at e; subst e; exact h
      obtain rfl : x11 = .bool false := by obtain ⟨u, e, h⟩ := hval 11 (by omega); simp only [List.getElem?_cons_zero, List.getElem?_cons_succ, Option.some.injEq] at e; subst e; exact h
      clear hval hvl
      have HBX := Lib.hid ((HS0.out.next hbx).b)
      clear hbx
      simp only [putL, Act.put, List.drop, List.length_cons, List.length_nil, Nat.reduceAdd, List.setIfInBounds_toArray, List.set_cons_zero, List.set_cons_succ]
      go_wp2
      go_ret
      exact ⟨ret_bool (by simp [truthB, HE.out]), HBX.out⟩
  · have HE := Lib.hid he
    have HL := Lib.hid (ends_len he)
    obtain ⟨t, ht⟩ : ∃ t, wrongs C ends = t := ⟨_, rfl⟩
    have HT := Lib.hid ht
    clear he ht
    obtain ⟨r, hr⟩ : ∃ r, decide (t ≤ C.wrong) = r := ⟨_, rfl⟩
    have HR := Lib.hid hr
    go_upto_region 1 with fail
    refine wp_region_facts _ 12 [5, 6, 7, 8, 9, 10, 11, 12, 13, 14, 15, 4] [isV (.agg #[.slice a C.deeds.length cap, .slice a2 C.sights.length cap2, .int .i64 C.wrong]), isV (.slice ua ends.length ucap), isV (.bool true), isV (.bool true), isV (.agg #[.slice a C.deeds.length cap, .slice a2 C.sights.length cap2, .int .i64 C.wrong]), isV (.slice ua ends.length ucap), isV (.int .i64 t), isV (.pointer (some ⟨w.heap.size, 2, none⟩)), isV (.int .i64 C.wrong), isV (.bool r), isV (.bool r), isV (.bool r)] (by kernel_rfl) (by kernel_rfl) (by kernel_rfl) rfl (by decide) (by decide) (by simp) ?step ?rest
    case step =>
      intro i ac W d hi hd hb hoff hdep
      have hs := HS0.out.next hb
      obtain ⟨c0, c1, c2⟩ := hs.cells
      have hi2 : i = 0 ∨ i = 1 ∨ i = 2 ∨ i = 3 ∨ i = 4 ∨ i = 5 ∨ i = 6 ∨ i = 7 ∨ i = 8 ∨ i = 9 ∨ i = 10 ∨ i = 11 := by omega
      rcases hi2 with rfl | rfl | rfl | rfl | rfl | rfl | rfl | rfl | rfl | rfl | rfl | rfl
      · obtain rfl : 5 = d := by simpa using hd
        have q2 : ac.tmps[2]?.getD undef = .pointer (some ⟨w.heap.size, 0, none⟩) := (eval_tmp _ _).symm.trans <| (hoff 2 (by decide)).trans rfl
        refine fact_value rfl rfl rfl (v := .agg #[.slice a C.deeds.length cap, .slice a2 C.sights.length cap2, .int .i64 C.wrong]) (W' := W) ?_ (Below.refl _ _) rfl
        simp only [execOp, q2]
        go_simp
      · obtain rfl : 6 = d := by simpa using hd
        have q1 : ac.tmps[1]?.getD undef = .slice ua ends.length ucap := (eval_tmp _ _).symm.trans <| (hoff 1 (by decide)).trans rfl
        refine fact_value rfl rfl rfl (v := .slice ua ends.length ucap) (W' := W) ?_ (Below.refl _ _) rfl
        simp only [execOp, q1]
        go_simp
      · obtain rfl : 7 = d := by simpa using hd
        have q5 : ac.tmps[5]?.getD undef = .agg #[.slice a C.deeds.length cap, .slice a2 C.sights.length cap2, .int .i64 C.wrong] := (eval_tmp _ _).symm.trans (hdep 0 5 rfl rfl)
        have q6 : ac.tmps[6]?.getD undef = .slice ua ends.length ucap := (eval_tmp _ _).symm.trans (hdep 1 6 rfl rfl)
        refine fact_call rfl rfl rfl (f := 95) (args := #[.agg #[.slice a C.deeds.length cap, .slice a2 C.sights.length cap2, .int .i64 C.wrong], .slice ua ends.length ucap]) ?_ ?_
        · simp only [execOp, q5, q6]
          go_simp
        · refine (IsChoice_to HE.out HN40.out hs.st ((HU.out.below hs.b).mono hs.b.size)).mono ?_
          rintro e W' ⟨rfl, hbk⟩
          exact ⟨_, rfl, hbk, rfl⟩
      · obtain rfl : 8 = d := by simpa using hd
        have q7 : ac.tmps[7]?.getD undef = .bool true := (eval_tmp _ _).symm.trans (hdep 2 7 rfl rfl)
        refine fact_value rfl rfl rfl (v := .bool true) (W' := W) ?_ (Below.refl _ _) rfl
        simp only [execOp, q7]
        go_simp
      · obtain rfl : 9 = d := by simpa using hd
        have q2 : ac.tmps[2]?.getD undef = .pointer (some ⟨w.heap.size, 0, none⟩) := (eval_tmp _ _).symm.trans <| (hoff 2 (by decide)).trans rfl
        have q8 : ac.tmps[8]?.getD undef = .bool true := (eval_tmp _ _).symm.trans (hdep 3 8 rfl rfl)
        refine fact_value_on rfl (wants_on (t := 8) rfl rfl q8) rfl (v := .agg #[.slice a C.deeds.length cap, .slice a2 C.sights.length cap2, .int .i64 C.wrong]) (W' := W) ?_ (Below.refl _ _) rfl
        simp only [execOp, q2]
        go_simp
      · obtain rfl : 10 = d := by simpa using hd
        have q1 : ac.tmps[1]?.getD undef = .slice ua ends.length ucap := (eval_tmp _ _).symm.trans <| (hoff 1 (by decide)).trans rfl
        have q8 : ac.tmps[8]?.getD undef = .bool true := (eval_tmp _ _).symm.trans (hdep 3 8 rfl rfl)
        refine fact_value_on rfl (wants_on (t := 8) rfl rfl q8) rfl (v := .slice ua ends.length ucap) (W' := W) ?_ (Below.refl _ _) rfl
        simp only [execOp, q1]
        go_simp
      · obtain rfl : 11 = d := by simpa using hd
        have q9 : ac.tmps[9]?.getD undef = .agg #[.slice a C.deeds.length cap, .slice a2 C.sights.length cap2, .int .i64 C.wrong] := (eval_tmp _ _).symm.trans (hdep 4 9 rfl rfl)
        have q10 : ac.tmps[10]?.getD undef = .slice ua ends.length ucap := (eval_tmp _ _).symm.trans (hdep 5 10 rfl rfl)
        have q8 : ac.tmps[8]?.getD undef = .bool true := (eval_tmp _ _).symm.trans (hdep 3 8 rfl rfl)
        refine fact_call_on rfl (wants_on (t := 8) rfl rfl q8) rfl (f := 49) (args := #[.agg #[.slice a C.deeds.length cap, .slice a2 C.sights.length cap2, .int .i64 C.wrong], .slice ua ends.length ucap]) ?_ ?_
        · simp only [execOp, q9, q10]
          go_simp
        · refine (Wrongs_to HT.out HV.out HL.out hs.st ((HU.out.below hs.b).mono hs.b.size)).mono ?_
          rintro e W' ⟨rfl, hbk⟩
          exact ⟨_, rfl, hbk, rfl⟩
      · obtain rfl : 12 = d := by simpa using hd
        have q2 : ac.tmps[2]?.getD undef = .pointer (some ⟨w.heap.size, 0, none⟩) := (eval_tmp _ _).symm.trans <| (hoff 2 (by decide)).trans rfl
        have q8 : ac.tmps[8]?.getD undef = .bool true := (eval_tmp _ _).symm.trans (hdep 3 8 rfl rfl)
        refine fact_value_on rfl (wants_on (t := 8) rfl rfl q8) rfl (v := .pointer (some ⟨w.heap.size, 2, none⟩)) (W' := W) ?_ (Below.refl _ _) rfl
        simp only [execOp, q2]
        go_simp
      · obtain rfl : 13 = d := by simpa using hd
        have q12 : ac.tmps[12]?.getD undef = .pointer (some ⟨w.heap.size, 2, none⟩) := (eval_tmp _ _).symm.trans (hdep 7 12 rfl rfl)
        have q8 : ac.tmps[8]?.getD undef = .bool true := (eval_tmp _ _).symm.trans (hdep 3 8 rfl rfl)
        refine fact_value_on rfl (wants_on (t := 8) rfl rfl q8) rfl (v := .int .i64 C.wrong) (W' := W) ?_ (Below.refl _ _) rfl
        simp only [execOp, q12]
        go_simp
      · obtain rfl : 14 = d := by simpa using hd
        have q11 : ac.tmps[11]?.getD undef = .int .i64 t := (eval_tmp _ _).symm.trans (hdep 6 11 rfl rfl)
        have q13 : ac.tmps[13]?.getD undef = .int .i64 C.wrong := (eval_tmp _ _).symm.trans (hdep 8 13 rfl rfl)
        have q8 : ac.tmps[8]?.getD undef = .bool true := (eval_tmp _ _).symm.trans (hdep 3 8 rfl rfl)
        refine fact_value_on rfl (wants_on (t := 8) rfl rfl q8) rfl (v := .bool r) (W' := W) ?_ (Below.refl _ _) rfl
        simp only [execOp, q11, q13]
        go_simp
      · obtain rfl : 15 = d := by simpa using hd
        have q8 : ac.tmps[8]?.getD undef = .bool true := (eval_tmp _ _).symm.trans (hdep 3 8 rfl rfl)
        have q14 : ac.tmps[14]?.getD undef = .bool r := (eval_tmp _ _).symm.trans (hdep 9 14 rfl rfl)
        refine fact_value rfl rfl rfl (v := .bool r) (W' := W) ?_ (Below.refl _ _) rfl
        simp only [execOp, q8, q14]
        go_simp
      · obtain rfl : 4 = d := by simpa using hd
        have q15 : ac.tmps[15]?.getD undef = .bool r := (eval_tmp _ _).symm.trans (hdep 10 15 rfl rfl)
        refine fact_value rfl rfl rfl (v := .bool r) (W' := W) ?_ (Below.refl _ _) rfl
        simp only [execOp, q15]
        go_simp
    case rest =>
      intro vs W2 hvl hbx hval
      obtain ⟨x0, x1, x2, x3, x4, x5, x6, x7, x8, x9, x10, x11, rfl⟩ : ∃ x0 x1 x2 x3 x4 x5 x6 x7 x8 x9 x10 x11, vs = [x0, x1, x2, x3, x4, x5, x6, x7, x8, x9, x10, x11] := by
        match vs, hvl with
        | [x0, x1, x2, x3, x4, x5, x6, x7, x8, x9, x10, x11], _ => exact ⟨x0, x1, x2, x3, x4, x5, x6, x7, x8, x9, x10, x11, rfl⟩
      obtain rfl : x0 = .agg #[.slice a C.deeds.length cap, .slice a2 C.sights.length cap2, .int .i64 C.wrong] := by obtain ⟨u, e, h⟩ := hval 0 (by omega); simp only [List.getElem?_cons_zero, List.getElem?_cons_succ, Option.some.injEq] at e; subst e; exact h
      obtain rfl : x1 = .slice ua ends.length ucap := by obtain ⟨u, e, h⟩ := hval 1 (by omega); simp only [List.getElem?_cons_zero, List.getElem?_cons_succ, Option.some.injEq] at e; subst e; exact h
      obtain rfl : x2 = .bool true := by obtain ⟨u, e, h⟩ := hval 2 (by omega); simp only [List.getElem?_cons_zero, List.getElem?_cons_succ, Option.some.injEq] at e; subst e; exact h
      obtain rfl : x3 = .bool true := by obtain ⟨u, e, h⟩ := hval 3 (by omega); simp only [List.getElem?_cons_zero, List.getElem?_cons_succ, Option.some.injEq] at e; subst e; exact h
      obtain rfl : x4 = .agg #[.slice a C.deeds.length cap, .slice a2 C.sights.length cap2, .int .i64 C.wrong] := by obtain ⟨u, e, h⟩ := hval 4 (by omega); simp only [List.getElem?_cons_zero, List.getElem?_cons_succ, Option.some.injEq] at e; subst e; exact h
      obtain rfl : x5 = .slice ua ends.length ucap := by obtain ⟨u, e, h⟩ := hval 5 (by omega); simp only [List.getElem?_cons_zero, List.getElem?_cons_succ, Option.some.injEq] at e; subst e; exact h
      obtain rfl : x6 = .int .i64 t := by obtain ⟨u, e, h⟩ := hval 6 (by omega); simp only [List.getElem?_cons_zero, List.getElem?_cons_succ, Option.some.injEq] at e; subst e; exact h
      obtain rfl : x7 = .pointer (some ⟨w.heap.size, 2, none⟩) := by obtain ⟨u, e, h⟩ := hval 7 (by omega); simp only [List.getElem?_cons_zero, List.getElem?_cons_succ, Option.some.injEq] at e; subst e; exact h
      obtain rfl : x8 = .int .i64 C.wrong := by obtain ⟨u, e, h⟩ := hval 8 (by omega); simp only [List.getElem?_cons_zero, List.getElem?_cons_succ, Option.some.injEq] at e; subst e; exact h
      obtain rfl : x9 = .bool r := by obtain ⟨u, e, h⟩ := hval 9 (by omega); simp only [List.getElem?_cons_zero, List.getElem?_cons_succ, Option.some.injEq] at e; subst e; exact h
      obtain rfl : x10 = .bool r := by obtain ⟨u, e, h⟩ := hval 10 (by omega); simp only [List.getElem?_cons_zero, List.getElem?_cons_succ, Option.some.injEq] at e; subst e; exact h
      obtain rfl : x11 = .bool r := by obtain ⟨u, e, h⟩ := hval 11 (by omega); simp only [List.getElem?_cons_zero, List.getElem?_cons_succ, Option.some.injEq] at e; subst e; exact h
      clear hval hvl
      have HBX := Lib.hid ((HS0.out.next hbx).b)
      clear hbx
      simp only [putL, Act.put, List.drop, List.length_cons, List.length_nil, Nat.reduceAdd, List.setIfInBounds_toArray, List.set_cons_zero, List.set_cons_succ]
      go_wp2
      go_ret
      exact ⟨ret_bool (by simp [truthB, HE.out, HT.out, ← HR.out]), HBX.out⟩
theorem IsTruth_to {v u : Value} {C : Chain} {ends : List Int} {w : World} {r : Bool} (h : truthB C ends = r) (hV : validB C = true) (hx : ChainAt w.heap.size w v C) (hu : IntsAt w.heap.size w u ends) :
    Calls Try.prog 45 #[v, u] w fun e w' => e = .returned (.bool r) ∧ Below w.heap.size w w' := h ▸ IsTruth_any v u C ends w hV hx hu

set_option maxRecDepth 100000 in
set_option maxHeartbeats 8000000 in
theorem BarAt_any (v u : Value) (C : Chain) (ends : List Int) (p : Nat) (w : World) (hV : validB C = true) (hl : ends.length = C.deeds.length) (hat : (p : Int) < lenTo C.deeds C.deeds.length) (hx : ChainAt w.heap.size w v C) (hu : IntsAt w.heap.size w u ends) :
    Calls Try.prog 55 #[v, u, .int .i64 p] w fun e w' => e = .returned (.int .i64 (barOf C p ends)) ∧ Below w.heap.size w w' := by
  have hx' := hx
  obtain ⟨a, cap, b, off, a2, cap2, b2, off2, rfl, hm, hm2, hcap, hcapm, HA, HC, HA2, HC2, HI, HI2⟩ := hx.opened
  have hu' := hu
  obtain ⟨ua, ucap, ub, uoff, rfl, hum, HUA, HUC, HUI⟩ := hu.opened
  have hV' := valid_iff.1 hV
  have hnd := hV'.nd
  have hns := hV'.ns
  have HS0 := Lib.hid (LStat.first hx')
  have HU := Lib.hid hu'
  have HL := Lib.hid hl
  have HV := Lib.hid hV
  have HV' := Lib.hid hV'
  have HN40 := Lib.hid (show C.deeds.length ≤ 40 by omega)
  have hlen := (story_ok (ends := ends) hV'.deed C.deeds.length (Nat.le_refl _)).1
  have hpl : p < (story C.deeds ends C.deeds.length).length := by omega
  obtain ⟨q, hq, hqw⟩ := story_link hV' ends (Nat.le_refl _) hpl
  obtain ⟨j, hj, hjn, hdj⟩ := weld_deed hV' hqw
  obtain ⟨d, hd⟩ : ∃ d, dnth (weldL C.deeds) q = d := ⟨_, rfl⟩
  have HB := Lib.hid (show barOf C p ends = d.bar by simp only [barOf, linkAt, hq, markD, Int.toNat_natCast, hd])
  rw [hd] at hdj
  obtain ⟨rfl, hbw⟩ := HA.out (by omega)
  have HD0 := Lib.hid (show Five w b (off + j * 5) d.what d.at_ d.from_ d.bar d.smith from by have := HC.out j hjn; rwa [hdj] at this)
  have HQ := Lib.hid hq
  have HJ := Lib.hid hj
  have HPL := Lib.hid hpl
  have HQW := Lib.hid hqw
  have hjn0 : (0 : Int) ≤ (j : Nat) := by omega
  have hjn1 : ((j : Nat) : Int) < (C.deeds.length : Int) := by omega
  clear hx hx' HA2 HC2 HI HI2 hu hu' hV hV' hl HA HC HUA HUC HUI hq hj hdj hd hlen hpl hqw
  go_enter Try.func55, Try.ntmps55
  go_upto_region 1 with fail
  refine wp_region_facts _ 16 [7, 8, 9, 10, 11, 12, 13, 14, 15, 16, 17, 18, 19, 20, 21, 6] [isV (.pointer (some ⟨w.heap.size, 0, none⟩)), isV (.slice (some ⟨b, off, none⟩) C.deeds.length cap), isV (.agg #[.slice (some ⟨b, off, none⟩) C.deeds.length cap, .slice a2 C.sights.length cap2, .int .i64 C.wrong]), ⟨fun v W => OwnInts W v (weldIx C.deeds C.deeds.length), fun _ _ _ h hb => h.below hb⟩, isV (.agg #[.slice (some ⟨b, off, none⟩) C.deeds.length cap, .slice a2 C.sights.length cap2, .int .i64 C.wrong]), isV (.slice ua ends.length ucap), ⟨fun v W => OwnInts W v (story C.deeds ends C.deeds.length), fun _ _ _ h hb => h.below hb⟩, isV (.int .i64 (p : Int)), ⟨fun v W => ∃ g, v = .pointer (some ⟨g, p, none⟩) ∧ W.cell? ⟨g, p, none⟩ = some (.int .i64 (q : Int)), fun _ _ _ ⟨g, h1, h2⟩ hb => ⟨g, h1, (hb.cell (block_lt_of_cell h2)).trans h2⟩⟩, isV (.int .i64 (q : Int)), ⟨fun v W => ∃ g, v = .pointer (some ⟨g, q, none⟩) ∧ W.cell? ⟨g, q, none⟩ = some (.int .i64 (j : Int)), fun _ _ _ ⟨g, h1, h2⟩ hb => ⟨g, h1, (hb.cell (block_lt_of_cell h2)).trans h2⟩⟩, isV (.int .i64 (j : Int)), isV (.pointer (some ⟨b, off + j * 5, none⟩)), isV (.pointer (some ⟨b, off + j * 5 + 3, none⟩)), isV (.int .i64 d.bar), isV (.int .i64 d.bar)] (by kernel_rfl) (by kernel_rfl) (by kernel_rfl) rfl (by decide) (by decide) (by simp) ?step ?rest
  case step =>
    intro i ac W d hi hd hb hoff hdep
    have hs := HS0.out.next hb
    obtain ⟨c0, c1, c2⟩ := hs.cells
    obtain ⟨d0, d1, d2, d3, d4⟩ := HD0.out.below hs.b hbw
    have hi2 : i = 0 ∨ i = 1 ∨ i = 2 ∨ i = 3 ∨ i = 4 ∨ i = 5 ∨ i = 6 ∨ i = 7 ∨ i = 8 ∨ i = 9 ∨ i = 10 ∨ i = 11 ∨ i = 12 ∨ i = 13 ∨ i = 14 ∨ i = 15 := by omega
    rcases hi2 with rfl | rfl | rfl | rfl | rfl | rfl | rfl | rfl | rfl | rfl | rfl | rfl | rfl | rfl | rfl | rfl
    · obtain rfl : 7 = d := by simpa using hd
      have q3 : ac.tmps[3]?.getD undef = .pointer (some ⟨w.heap.size, 0, none⟩) := (eval_tmp _ _).symm.trans <| (hoff 3 (by decide)).trans rfl
      refine fact_value rfl rfl rfl (v := .pointer (some ⟨w.heap.size, 0, none⟩)) (W' := W) ?_ (Below.refl _ _) rfl
      simp only [execOp, q3]
      go_simp
    · obtain rfl : 8 = d := by simpa using hd
      have q7 : ac.tmps[7]?.getD undef = .pointer (some ⟨w.heap.size, 0, none⟩) := (eval_tmp _ _).symm.trans (hdep 0 7 rfl rfl)
      refine fact_value rfl rfl rfl (v := .slice (some ⟨b, off, none⟩) C.deeds.length cap) (W' := W) ?_ (Below.refl _ _) rfl
      simp only [execOp, q7]
      go_simp
    · obtain rfl : 9 = d := by simpa using hd
      have q3 : ac.tmps[3]?.getD undef = .pointer (some ⟨w.heap.size, 0, none⟩) := (eval_tmp _ _).symm.trans <| (hoff 3 (by decide)).trans rfl
      refine fact_value rfl rfl rfl (v := .agg #[.slice (some ⟨b, off, none⟩) C.deeds.length cap, .slice a2 C.sights.length cap2, .int .i64 C.wrong]) (W' := W) ?_ (Below.refl _ _) rfl
      simp only [execOp, q3]
      go_simp
    · obtain rfl : 10 = d := by simpa using hd
      have q9 : ac.tmps[9]?.getD undef = .agg #[.slice (some ⟨b, off, none⟩) C.deeds.length cap, .slice a2 C.sights.length cap2, .int .i64 C.wrong] := (eval_tmp _ _).symm.trans (hdep 2 9 rfl rfl)
      refine fact_call rfl rfl rfl (f := 54) (args := #[.agg #[.slice (some ⟨b, off, none⟩) C.deeds.length cap, .slice a2 C.sights.length cap2, .int .i64 C.wrong]]) ?_ ?_
      · simp only [execOp, q9]
        go_simp
      · refine (Welds_o _ C W HN40.out hs.st).mono ?_
        rintro e W' ⟨q, rfl, hls, hbk⟩
        exact ⟨q, rfl, hbk, hls⟩
    · obtain rfl : 11 = d := by simpa using hd
      have q3 : ac.tmps[3]?.getD undef = .pointer (some ⟨w.heap.size, 0, none⟩) := (eval_tmp _ _).symm.trans <| (hoff 3 (by decide)).trans rfl
      refine fact_value rfl rfl rfl (v := .agg #[.slice (some ⟨b, off, none⟩) C.deeds.length cap, .slice a2 C.sights.length cap2, .int .i64 C.wrong]) (W' := W) ?_ (Below.refl _ _) rfl
      simp only [execOp, q3]
      go_simp
    · obtain rfl : 12 = d := by simpa using hd
      have q1 : ac.tmps[1]?.getD undef = .slice ua ends.length ucap := (eval_tmp _ _).symm.trans <| (hoff 1 (by decide)).trans rfl
      refine fact_value rfl rfl rfl (v := .slice ua ends.length ucap) (W' := W) ?_ (Below.refl _ _) rfl
      simp only [execOp, q1]
      go_simp
    · obtain rfl : 13 = d := by simpa using hd
      have q11 : ac.tmps[11]?.getD undef = .agg #[.slice (some ⟨b, off, none⟩) C.deeds.length cap, .slice a2 C.sights.length cap2, .int .i64 C.wrong] := (eval_tmp _ _).symm.trans (hdep 4 11 rfl rfl)
      have q12 : ac.tmps[12]?.getD undef = .slice ua ends.length ucap := (eval_tmp _ _).symm.trans (hdep 5 12 rfl rfl)
      refine fact_call rfl rfl rfl (f := 47) (args := #[.agg #[.slice (some ⟨b, off, none⟩) C.deeds.length cap, .slice a2 C.sights.length cap2, .int .i64 C.wrong], .slice ua ends.length ucap]) ?_ ?_
      · simp only [execOp, q11, q12]
        go_simp
      · refine (Now_any _ _ C ends W HV.out HL.out hs.st ((HU.out.below hs.b).mono hs.b.size)).mono ?_
        rintro e W' ⟨q, rfl, hls, hbk⟩
        exact ⟨q, rfl, hbk, hls⟩
    · obtain rfl : 14 = d := by simpa using hd
      have q2 : ac.tmps[2]?.getD undef = .int .i64 (p : Int) := (eval_tmp _ _).symm.trans <| (hoff 2 (by decide)).trans rfl
      refine fact_value rfl rfl rfl (v := .int .i64 (p : Int)) (W' := W) ?_ (Below.refl _ _) rfl
      simp only [execOp, q2]
      go_simp
    · obtain rfl : 15 = d := by simpa using hd
      have q13 : OwnInts W (ac.tmps[13]?.getD undef) (story C.deeds ends C.deeds.length) := eval_tmp ac _ ▸ hdep 6 13 rfl rfl
      have q14 : ac.tmps[14]?.getD undef = .int .i64 (p : Int) := (eval_tmp _ _).symm.trans (hdep 7 14 rfl rfl)
      obtain ⟨g, c, hq, hcell⟩ := q13.at (HPL.out)
      rw [HQ.out] at hcell
      have i1 : (0 : Int) ≤ (p : Nat) := by omega
      have i2 : ((p : Nat) : Int) < ((story C.deeds ends C.deeds.length).length : Int) := by have := HPL.out; omega
      refine fact_value rfl rfl rfl (v := .pointer (some ⟨g, p, none⟩)) (W' := W) ?_ (Below.refl _ _) ⟨g, rfl, hcell⟩
      simp only [execOp, q14, hq]
      go_simp
    · obtain rfl : 16 = d := by simpa using hd
      have q15 : ∃ g, (ac.tmps[15]?.getD undef) = .pointer (some ⟨g, p, none⟩) ∧ W.cell? ⟨g, p, none⟩ = some (.int .i64 (q : Int)) := eval_tmp ac _ ▸ hdep 8 15 rfl rfl
      obtain ⟨g, hq, hcell⟩ := q15
      refine fact_value rfl rfl rfl (v := .int .i64 (q : Int)) (W' := W) ?_ (Below.refl _ _) rfl
      simp only [execOp, hq]
      go_simp
    · obtain rfl : 17 = d := by simpa using hd
      have q10 : OwnInts W (ac.tmps[10]?.getD undef) (weldIx C.deeds C.deeds.length) := eval_tmp ac _ ▸ hdep 3 10 rfl rfl
      have q16 : ac.tmps[16]?.getD undef = .int .i64 (q : Int) := (eval_tmp _ _).symm.trans (hdep 9 16 rfl rfl)
      obtain ⟨g, c, hq, hcell⟩ := q10.at ((show q < (weldIx C.deeds C.deeds.length).length by rw [weldIx_len]; exact HQW.out))
      rw [HJ.out] at hcell
      have i1 : (0 : Int) ≤ (q : Nat) := by omega
      have i2 : ((q : Nat) : Int) < ((weldIx C.deeds C.deeds.length).length : Int) := by have := (show q < (weldIx C.deeds C.deeds.length).length by rw [weldIx_len]; exact HQW.out); omega
      refine fact_value rfl rfl rfl (v := .pointer (some ⟨g, q, none⟩)) (W' := W) ?_ (Below.refl _ _) ⟨g, rfl, hcell⟩
      simp only [execOp, q16, hq]
      go_simp
    · obtain rfl : 18 = d := by simpa using hd
      have q17 : ∃ g, (ac.tmps[17]?.getD undef) = .pointer (some ⟨g, q, none⟩) ∧ W.cell? ⟨g, q, none⟩ = some (.int .i64 (j : Int)) := eval_tmp ac _ ▸ hdep 10 17 rfl rfl
      obtain ⟨g, hq, hcell⟩ := q17
      refine fact_value rfl rfl rfl (v := .int .i64 (j : Int)) (W' := W) ?_ (Below.refl _ _) rfl
      simp only [execOp, hq]
      go_simp
    · obtain rfl : 19 = d := by simpa using hd
      have q8 : ac.tmps[8]?.getD undef = .slice (some ⟨b, off, none⟩) C.deeds.length cap := (eval_tmp _ _).symm.trans (hdep 1 8 rfl rfl)
      have q18 : ac.tmps[18]?.getD undef = .int .i64 (j : Int) := (eval_tmp _ _).symm.trans (hdep 11 18 rfl rfl)
      refine fact_value rfl rfl rfl (v := .pointer (some ⟨b, off + j * 5, none⟩)) (W' := W) ?_ (Below.refl _ _) rfl
      simp only [execOp, q8, q18]
      go_simp
    · obtain rfl : 20 = d := by simpa using hd
      have q19 : ac.tmps[19]?.getD undef = .pointer (some ⟨b, off + j * 5, none⟩) := (eval_tmp _ _).symm.trans (hdep 12 19 rfl rfl)
      refine fact_value rfl rfl rfl (v := .pointer (some ⟨b, off + j * 5 + 3, none⟩)) (W' := W) ?_ (Below.refl _ _) rfl
      simp only [execOp, q19]
      go_simp
    · obtain rfl : 21 = d := by simpa using hd
      have q20 : ac.tmps[20]?.getD undef = .pointer (some ⟨b, off + j * 5 + 3, none⟩) := (eval_tmp _ _).symm.trans (hdep 13 20 rfl rfl)
      refine fact_value rfl rfl rfl (v := .int .i64 d.bar) (W' := W) ?_ (Below.refl _ _) rfl
      simp only [execOp, q20]
      go_simp
    · obtain rfl : 6 = d := by simpa using hd
      have q21 : ac.tmps[21]?.getD undef = .int .i64 d.bar := (eval_tmp _ _).symm.trans (hdep 14 21 rfl rfl)
      refine fact_value rfl rfl rfl (v := .int .i64 d.bar) (W' := W) ?_ (Below.refl _ _) rfl
      simp only [execOp, q21]
      go_simp
  case rest =>
    intro vs W2 hvl hbx hval
    obtain ⟨x0, x1, x2, x3, x4, x5, x6, x7, x8, x9, x10, x11, x12, x13, x14, x15, rfl⟩ : ∃ x0 x1 x2 x3 x4 x5 x6 x7 x8 x9 x10 x11 x12 x13 x14 x15, vs = [x0, x1, x2, x3, x4, x5, x6, x7, x8, x9, x10, x11, x12, x13, x14, x15] := by
      match vs, hvl with
      | [x0, x1, x2, x3, x4, x5, x6, x7, x8, x9, x10, x11, x12, x13, x14, x15], _ => exact ⟨x0, x1, x2, x3, x4, x5, x6, x7, x8, x9, x10, x11, x12, x13, x14, x15, rfl⟩
    obtain rfl : x0 = .pointer (some ⟨w.heap.size, 0, none⟩) := by obtain ⟨u, e, h⟩ := hval 0 (by omega); simp only [List.getElem?_cons_zero, List.getElem?_cons_succ, Option.some.injEq] at e; subst e; exact h
    obtain rfl : x1 = .slice (some ⟨b, off, none⟩) C.deeds.length cap := by obtain ⟨u, e, h⟩ := hval 1 (by omega); simp only [List.getElem?_cons_zero, List.getElem?_cons_succ, Option.some.injEq] at e; subst e; exact h
    obtain rfl : x2 = .agg #[.slice (some ⟨b, off, none⟩) C.deeds.length cap, .slice a2 C.sights.length cap2, .int .i64 C.wrong] := by obtain ⟨u, e, h⟩ := hval 2 (by omega); simp only [List.getElem?_cons_zero, List.getElem?_cons_succ, Option.some.injEq] at e; subst e; exact h
    have k3 : OwnInts W2 x3 (weldIx C.deeds C.deeds.length) := by obtain ⟨u, e, h⟩ := hval 3 (by omega); simp only [List.getElem?_cons_zero, List.getElem?_cons_succ, Option.some.injEq] at e; subst e; exact h
    obtain rfl : x4 = .agg #[.slice (some ⟨b, off, none⟩) C.deeds.length cap, .slice a2 C.sights.length cap2, .int .i64 C.wrong] := by obtain ⟨u, e, h⟩ := hval 4 (by omega); simp only [List.getElem?_cons_zero, List.getElem?_cons_succ, Option.some.injEq] at e; subst e; exact h
    obtain rfl : x5 = .slice ua ends.length ucap := by obtain ⟨u, e, h⟩ := hval 5 (by omega); simp only [List.getElem?_cons_zero, List.getElem?_cons_succ, Option.some.injEq] at e; subst e; exact h
    have k6 : OwnInts W2 x6 (story C.deeds ends C.deeds.length) := by obtain ⟨u, e, h⟩ := hval 6 (by omega); simp only [List.getElem?_cons_zero, List.getElem?_cons_succ, Option.some.injEq] at e; subst e; exact h
    obtain rfl : x7 = .int .i64 (p : Int) := by obtain ⟨u, e, h⟩ := hval 7 (by omega); simp only [List.getElem?_cons_zero, List.getElem?_cons_succ, Option.some.injEq] at e; subst e; exact h
    have k8 : ∃ g, x8 = .pointer (some ⟨g, p, none⟩) ∧ W2.cell? ⟨g, p, none⟩ = some (.int .i64 (q : Int)) := by obtain ⟨u, e, h⟩ := hval 8 (by omega); simp only [List.getElem?_cons_zero, List.getElem?_cons_succ, Option.some.injEq] at e; subst e; exact h
    obtain rfl : x9 = .int .i64 (q : Int) := by obtain ⟨u, e, h⟩ := hval 9 (by omega); simp only [List.getElem?_cons_zero, List.getElem?_cons_succ, Option.some.injEq] at e; subst e; exact h
    have k10 : ∃ g, x10 = .pointer (some ⟨g, q, none⟩) ∧ W2.cell? ⟨g, q, none⟩ = some (.int .i64 (j : Int)) := by obtain ⟨u, e, h⟩ := hval 10 (by omega); simp only [List.getElem?_cons_zero, List.getElem?_cons_succ, Option.some.injEq] at e; subst e; exact h
    obtain rfl : x11 = .int .i64 (j : Int) := by obtain ⟨u, e, h⟩ := hval 11 (by omega); simp only [List.getElem?_cons_zero, List.getElem?_cons_succ, Option.some.injEq] at e; subst e; exact h
    obtain rfl : x12 = .pointer (some ⟨b, off + j * 5, none⟩) := by obtain ⟨u, e, h⟩ := hval 12 (by omega); simp only [List.getElem?_cons_zero, List.getElem?_cons_succ, Option.some.injEq] at e; subst e; exact h
    obtain rfl : x13 = .pointer (some ⟨b, off + j * 5 + 3, none⟩) := by obtain ⟨u, e, h⟩ := hval 13 (by omega); simp only [List.getElem?_cons_zero, List.getElem?_cons_succ, Option.some.injEq] at e; subst e; exact h
    obtain rfl : x14 = .int .i64 d.bar := by obtain ⟨u, e, h⟩ := hval 14 (by omega); simp only [List.getElem?_cons_zero, List.getElem?_cons_succ, Option.some.injEq] at e; subst e; exact h
    obtain rfl : x15 = .int .i64 d.bar := by obtain ⟨u, e, h⟩ := hval 15 (by omega); simp only [List.getElem?_cons_zero, List.getElem?_cons_succ, Option.some.injEq] at e; subst e; exact h
    clear hval hvl
    have HBX := Lib.hid ((HS0.out.next hbx).b)
    clear hbx k3 k6 k8 k10
    simp only [putL, Act.put, List.drop, List.length_cons, List.length_nil, Nat.reduceAdd, List.setIfInBounds_toArray, List.set_cons_zero, List.set_cons_succ]
    go_wp2
    go_ret
    exact ⟨ret_int HB.out.symm, HBX.out⟩
theorem BarAt_to {v u : Value} {C : Chain} {ends : List Int} {p : Nat} {w : World} {x : Int} (h : barOf C p ends = x) (hV : validB C = true) (hl : ends.length = C.deeds.length) (hat : (p : Int) < lenTo C.deeds C.deeds.length) (hx : ChainAt w.heap.size w v C) (hu : IntsAt w.heap.size w u ends) :
    Calls Try.prog 55 #[v, u, .int .i64 p] w fun e w' => e = .returned (.int .i64 x) ∧ Below w.heap.size w w' := h ▸ BarAt_any v u C ends p w hV hl hat hx hu

end Go.Proofs.Ythclinhikhinpaa

namespace Go.Proofs.Ythclinhikhinpaa
open Go.RowKit Go.Shelf

/-- By which of the first k deeds a link was proved. -/
def provTo (ds : List Deed) (x : List Int) (link : Int) : Nat → List Int
  | 0 => []
  | k + 1 => provTo ds x link k ++ (if (dnth ds k).what = 4 ∧ inB (story ds x k) link = true then [(k : Int)] else [])
theorem provTo_yes {ds : List Deed} {x : List Int} {link : Int} {k : Nat} (h1 : (dnth ds k).what = 4) (h2 : inB (story ds x k) link = true) : provTo ds x link (k + 1) = provTo ds x link k ++ [(k : Int)] := by simp only [provTo]; rw [if_pos ⟨h1, h2⟩]
theorem provTo_no {ds : List Deed} {x : List Int} {link : Int} {k : Nat} (h : ¬ ((dnth ds k).what = 4 ∧ inB (story ds x k) link = true)) : provTo ds x link (k + 1) = provTo ds x link k := by simp only [provTo]; rw [if_neg h, List.append_nil]
theorem provTo_len (ds : List Deed) (x : List Int) (link : Int) : ∀ k, ((provTo ds x link k).length : Int) = timesTo ds x link k
  | 0 => rfl
  | k + 1 => by
    simp only [provTo, timesTo, List.length_append]
    push_cast
    rw [provTo_len ds x link k]
    split <;> simp
/-- The last of some numbers. -/
def lastL (xs : List Int) : Int := if xs.length = 0 then -1 else nth xs (xs.length - 1)
theorem lastL_snoc (xs : List Int) (y : Int) : lastL (xs ++ [y]) = y := by simp [lastL, nth]
theorem provTo_last (ds : List Deed) (x : List Int) (link : Int) : ∀ k, lastTo ds x link k = lastL (provTo ds x link k)
  | 0 => rfl
  | k + 1 => by
    by_cases h : (dnth ds k).what = 4 ∧ inB (story ds x k) link = true
    · rw [provTo_yes h.1 h.2, lastTo_yes h.1 h.2, lastL_snoc]
    · rw [provTo_no h, lastTo_no h]
      exact provTo_last ds x link k
theorem provTo_le (ds : List Deed) (x : List Int) (link : Int) : ∀ k, (provTo ds x link k).length ≤ k ∧ ∀ y ∈ provTo ds x link k, 0 ≤ y ∧ y < k
  | 0 => by simp [provTo]
  | k + 1 => by
    have ih := provTo_le ds x link k
    simp only [provTo]
    split
    · refine ⟨by simp; omega, fun y hy => ?_⟩
      rcases List.mem_append.1 hy with hy | hy
      · have := ih.2 y hy; push_cast; omega
      · simp at hy; subst hy; push_cast; omega
    · rw [List.append_nil]
      exact ⟨by omega, fun y hy => by have := ih.2 y hy; push_cast; omega⟩

set_option maxRecDepth 100000 in
set_option maxHeartbeats 4000000 in
theorem Proved_any (v u : Value) (C : Chain) (ends : List Int) (link : Int) (w : World) (hV : validB C = true) (hl : ends.length = C.deeds.length) (hx : ChainAt w.heap.size w v C) (hu : IntsAt w.heap.size w u ends) :
    Calls Try.prog 52 #[v, u, .int .i64 link] w fun e w' => ∃ q, e = .returned q ∧ OwnInts w' q (provTo C.deeds ends link C.deeds.length) ∧ Below w.heap.size w w' := by
  have hx' := hx
  obtain ⟨i0, hi, hz0, hz1, hz2⟩ := info_parts Try_infoInt
  obtain ⟨a, cap, b, off, a2, cap2, b2, off2, rfl, hm, hm2, hcap, hcapm, HA, HC, HA2, HC2, HI, HI2⟩ := hx.opened
  have hu' := hu
  obtain ⟨ua, ucap, ub, uoff, rfl, hum, HUA, HUC, HUI⟩ := hu.opened
  have hV' := valid_iff.1 hV
  have hnd := hV'.nd
  have HS0 := Lib.hid (LStat.first hx')
  obtain ⟨c0, c1, c2⟩ := HS0.out.cells
  have HU := Lib.hid hu'
  have HL := Lib.hid hl
  have HV := Lib.hid hV
  have HV' := Lib.hid hV'
  clear hx hx' HA2 HC2 HI HI2 hu hu' hV hV' hl HUA HUC HUI
  go_enter Try.func52, Try.ntmps52
  go_wp2_with fail
  refine (Story_any _ _ C ends _ HV.out HL.out HS0.out.st ((HU.out.below HS0.out.b).mono HS0.out.b.size)).mono ?_
  rintro e w1 ⟨L, rfl, hls, hb1⟩
  have HS1 := Lib.hid (HS0.out.next hb1)
  have HLS := Lib.hid (hls.lower (Nat.zero_le _))
  obtain ⟨Lg, Lc, _, rfl, _, _⟩ := hls.get (i := 0) (by rw [storiesTo_len]; omega)
  rw [storiesTo_len] at HLS ⊢
  clear hb1 hls c0 c1 c2
  obtain ⟨c0, c1, c2⟩ := HS1.out.cells
  go_wp2_with fail
  go_loopw [7, 9] (fun o i wr => ∃ k : Nat, k ≤ C.deeds.length ∧ i = .int .i64 k ∧ Hid (wr.ownsRow w1.heap.size 3 1 o (provTo C.deeds ends link k).length ((provTo C.deeds ends link k).map (Value.int .i64))) ∧ Hid (Below w1.heap.size w1 wr)) (fun _ i _ => C.deeds.length - (intOf i).toNat)
  case atStart => exact ⟨0, Nat.zero_le _, rfl, World.ownsRow_nil _ _ _ _, Below.refl _ _⟩
  case round =>
    obtain ⟨k, hk, rfl, hown, hbl⟩ := hrel
    obtain ⟨oA, oc, rfl, _⟩ := own_form hown.out
    clear c0 c1 c2
    have HSR := Lib.hid (HS1.out.next hbl.out)
    obtain ⟨c0, c1, c2⟩ := HSR.out.cells
    have hle := provTo_le C.deeds ends link k
    have HLE := Lib.hid hle.2
    have hle1 := hle.1
    clear hle
    by_cases hlt : k < C.deeds.length
    · obtain ⟨rfl, hb⟩ := HA.out (by omega)
      obtain ⟨d0, d1, d2, d3, d4⟩ := (HC.out k hlt).below HSR.out.b hb
      obtain ⟨g, c, x, hq, hcell, hrow⟩ := (HLS.out.below hbl.out).get (i := k) (by rw [storiesTo_len]; omega)
      rw [storiesTo_nth _ _ (by omega)] at hrow
      injection hq with hq1 hq2 hq3
      injection hq1 with hq1
      injection hq1 with hq1
      clear hq2
      subst hq1 hq3
      have HROW := Lib.hid (hrow.ints (story_i64 HV'.out ends (by omega)))
      have hk0 : (0 : Int) ≤ (k : Nat) := by omega
      have hk1 : ((k : Nat) : Int) < (C.deeds.length : Int) + 1 := by omega
      clear hrow
      by_cases h4 : (dnth C.deeds k).what = 4
      · obtain ⟨q, hq⟩ : ∃ q, inB (story C.deeds ends k) link = q := ⟨_, rfl⟩
        have HQ := Lib.hid hq
        have H4 := Lib.hid h4
        cases q
        · have HN := Lib.hid (provTo_no (ds := C.deeds) (x := ends) (link := link) (k := k) (fun h => by rw [hq] at h; exact absurd h.2 (by simp)))
          clear hq
          go_wp2_with (go_at_call 98; refine (rIn_to HQ.out HROW.out).mono ?_; rintro e w' ⟨rfl, rfl⟩)
          exact ⟨⟨k + 1, by omega, by go_num, by rw [HN.out]; exact hown.out, hbl.out⟩, by simp [intOf]; omega⟩
        · have HN := Lib.hid (provTo_yes (ds := C.deeds) (x := ends) (link := link) (k := k) h4 hq)
          clear hq
          go_wp2_with (first | (go_at_call 98; refine (rIn_to HQ.out HROW.out).mono ?_; rintro e w' ⟨rfl, rfl⟩) | (at_builtin; refine wpList_append_own _ rfl _ _ 33 rfl w1.heap.size 3 i0 (.int .i64 0) 1 8 Try.underlying33 hi hz0 hz1 hz2 rfl (by decide) _ _ _ rfl (hown.out.alloc _) ⟨wr.heap.size, 0, none⟩ 1 1 [.int .i64 (k : Int)] rfl rfl ?c1 ?c2 ?c3 ?c4 ?c5 ?_))
          case c1 => simpa using cell_one_new wr (.int .i64 (k : Int)) 3
          case c2 => simp [Value.oneCell']
          case c3 => unfold maxLen; omega
          case c4 => omega
          case c5 => first | omega | (simp; have := hbl.out.size; omega)
          intro v' w3 hown' hgrow _
          have HO := Lib.hid hown'
          have HF := Lib.hid ((hbl.out.alloc hbl.out.size _).grown hgrow (by have := hbl.out.size; simp; omega) (fun j e => (hown.out.lt j e).1))
          clear hown' hgrow
          go_wp2
          exact ⟨⟨k + 1, by omega, by go_num, by rw [HN.out, List.map_append, List.length_append]; exact HO.out, HF.out⟩, by simp [intOf]; omega⟩
      · have HN := Lib.hid (provTo_no (ds := C.deeds) (x := ends) (link := link) (k := k) (fun h => h4 h.1))
        go_wp2_with fail
        exact ⟨⟨k + 1, by omega, by go_num, by rw [HN.out]; exact hown.out, hbl.out⟩, by simp [intOf]; omega⟩
    · obtain rfl : C.deeds.length = k := by omega
      go_wp2
      go_ret
      exact ⟨_, rfl, own_grow0 (W := wr) hown.out (Nat.zero_le _), HS1.out.b.trans (hbl.out.mono HS1.out.b.size)⟩

end Go.Proofs.Ythclinhikhinpaa
