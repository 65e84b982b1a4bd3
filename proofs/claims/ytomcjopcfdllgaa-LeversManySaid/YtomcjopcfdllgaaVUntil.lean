/-
  Levers: the last minute at which all truths pull.
  Levers, walks: the last minute at which all truths pull.
-/
import Derived.Test.YtomcjopcfdllgaaVWeight

namespace Go.Proofs.Ytomcjopcfdllgaa
open Go.RowKit

/-- How many minutes before the last all truths pull, from 0 to 99; else 100. -/
def lastU (M : Mach) (weight load : Int) : Nat := ((List.range 100).find? (fun u => allPull M weight (99 - (u : Nat)) load)).getD 100
def pU (M : Mach) (weight load : Int) (g : Grp) (v : Nat) : Bool := pullsB M weight (99 - (v : Nat)) load g.leak (g.hi M 0)
structure UInv (M : Mach) (weight load : Int) (pre : List Grp) (v : Nat) : Prop where
  le : v ≤ 100
  no : ∀ u, u < v → ∃ g ∈ pre, pU M weight load g u = false
  yes : v < 100 → ∀ g ∈ pre, pU M weight load g v = true
theorem UInv.zero (M : Mach) (weight load : Int) : UInv M weight load [] 0 := ⟨by omega, fun u h => by omega, fun _ g h => by cases h⟩
theorem UInv.next {M : Mach} (hV : ValidM M) {weight load : Int} {pre : List Grp} {v v' : Nat} {g : Grp} (hg : ∀ g ∈ pre, 0 ≤ g.leak) (h : UInv M weight load pre v) (hv : v ≤ v') (hle : v' ≤ 100) (hno : ∀ u, v ≤ u → u < v' → pU M weight load g u = false) (hyes : v' < 100 → pU M weight load g v' = true) : UInv M weight load (pre ++ [g]) v' := by
  refine ⟨hle, fun u hu => ?_, fun hlt x hx => ?_⟩
  · by_cases h1 : u < v
    · obtain ⟨x, hx, hp⟩ := h.no u h1
      exact ⟨x, List.mem_append_left _ hx, hp⟩
    · exact ⟨g, by simp, hno u (by omega) hu⟩
  · rcases List.mem_append.1 hx with hx | hx
    · exact pulls_down hV (by omega) (hg x hx) (h.yes (by omega) x hx)
    · rw [List.mem_singleton.1 hx]; exact hyes hlt
theorem UInv.last {M : Mach} (hV : ValidM M) {weight load : Int} (hl : 0 ≤ load) {v : Nat} (h : UInv M weight load (grpT M 0) v) : lastU M weight load = v := by
  refine find_least h.le (fun u hu => ?_) (fun hlt => ?_)
  · rw [allPull_grp hV hl]
    obtain ⟨g, hg, hp⟩ := h.no u hu
    exact List.all_eq_false.2 ⟨g, hg, by simp only [pU] at hp; simp [hp]⟩
  · rw [allPull_grp hV hl]
    exact List.all_eq_true.2 (h.yes hlt)
end Go.Proofs.Ytomcjopcfdllgaa

namespace Go.Proofs.Ytomcjopcfdllgaa
open Go.RowKit Go.Shelf

attribute [local go_sem] Oper.semAt_some

def boxJ (W : World) (b : Nat) : Nat := match W.cell? ⟨b, 0, none⟩ with
  | some (.int _ v) => (v + 1).toNat
  | _ => 0
theorem boxJ_of {W : World} {b v : Nat} {t : TypeId} (hv : v ≤ 100) (h : W.heap[b]? = some (.cells #[.int .i64 (99 - (v : Nat))] t)) : boxJ W b = 100 - v := by
  unfold boxJ
  rw [(cell1_of h).1]
  show (99 - (v : Int) + 1).toNat = _
  omega
/-- What Until answers. -/
def untilA (M : Mach) (weight load : Int) : Int × Int := if (truthsM M).isEmpty = true ∨ 100 ≤ lastU M weight load then (0, 3) else (99 - (lastU M weight load : Nat), 0)

set_option maxRecDepth 1000 in
set_option maxHeartbeats 4000000 in
theorem Until_in (F : Fence) (hF : Hid (F = Fence.wide)) (hd : F.depth = none) (hro : F.round = none) (hfn : ∀ f, F.fn f) (n : Nat) (hn : 9 ≤ n) (v : Value) (M : Mach) (weight load : Int) (w : World) (hx : MachAt w.heap.size w v M) (hV : validMB M = true) (ha : askB weight 0 load 0 = true) :
    CallsIn F n Try.prog 36 #[v, .int .i64 weight, .int .i64 load] w fun e w' => e = .returned (.tuple #[.int .i64 (untilA M weight load).1, .int .i64 (untilA M weight load).2]) ∧ Below w.heap.size w w' := by
  have hV' := validM_iff.1 hV
  have hmn := (askB_iff.1 ha).1
  have hld := (askB_iff.1 ha).2.2.1
  have HX := Lib.hid (fun W (hb : Below w.heap.size w W) => (hx.below hb).mono hb.size)
  obtain ⟨a, cap, a2, cap2, rfl⟩ := hx.form
  have HV := Lib.hid hV
  have HV' := Lib.hid hV'
  have HA := Lib.hid ha
  clear hx hV hV' ha
  refine callsIn_of_wp_marks Try.func36 rfl (hfn _) ?_ hro
  simp only [Try.ntmps36, List.size_toArray, List.length_cons, List.length_nil, Nat.reduceAdd, Nat.reduceSub, Array.replicate_succ, Array.replicate_zero, List.push_toArray, List.append_toArray, List.nil_append, List.cons_append]
  gi_wp2_with fail
  obtain ⟨wz, hwz⟩ : ∃ wz, wz = ((w.alloc (.cells #[.slice a M.levers.length cap, .int .i64 M.water, .int .i64 M.lkLo, .int .i64 M.lkHi, .slice a2 M.bals.length cap2, .int .i64 M.wrong] 27)).alloc (.cells #[.int .i64 weight] 3)).alloc (.cells #[.int .i64 load] 3) := ⟨_, rfl⟩
  have hsz0 : wz.heap.size = w.heap.size + 3 := by rw [hwz]; simp
  have hbz : Below w.heap.size w wz := by rw [hwz]; exact (((Below.refl _ w).alloc (Nat.le_refl _) _).alloc (by simp) _).alloc (by simp; omega) _
  have hz1 : wz.heap[w.heap.size + 1]? = some (.cells #[.int .i64 weight] 3) := by rw [hwz]; exact (Below.heap_alloc _ _ _ (by simp)).trans (heap_new1 _ _ _)
  have hz2 : wz.heap[w.heap.size + 2]? = some (.cells #[.int .i64 load] 3) := by
    rw [hwz]
    have := World.alloc_heap_new ((w.alloc (.cells #[.slice a M.levers.length cap, .int .i64 M.water, .int .i64 M.lkLo, .int .i64 M.lkHi, .slice a2 M.bals.length cap2, .int .i64 M.wrong] 27)).alloc (.cells #[.int .i64 weight] 3)) (.cells #[.int .i64 load] 3)
    simpa using this
  rw [← hwz]
  clear hwz
  refine (inF hF (open_ok _ M _ _ _ _ (HX.out _ hbz) HV.out HA.out)).mono ?_
  rintro e w1 ⟨pb, rfl, hwk, hb1⟩
  have hsz := hb1.size
  have HBW := Lib.hid (hbz.trans (hb1.mono hbz.size))
  have HM1 := Lib.hid ((hb1.block (w.heap.size + 1) (by omega)).trans hz1)
  have HL1 := Lib.hid ((hb1.block (w.heap.size + 2) (by omega)).trans hz2)
  have HWK := Lib.hid hwk
  clear hb1 hwk hbz hz1 hz2
  gi_wp2_with fail
  obtain ⟨w2, hw2⟩ : ∃ w2, w2 = ((w1.alloc (.cells #[.pointer (some ⟨pb, 0, none⟩)] 77)).alloc (.cells #[.bool false] 4)).alloc (.cells #[.int .i64 99] 3) := ⟨_, rfl⟩
  have hs2 : w2.heap.size = w1.heap.size + 3 := by rw [hw2]; simp
  have hb2 : Below w1.heap.size w1 w2 := by rw [hw2]; exact (((Below.refl _ w1).alloc (Nat.le_refl _) _).alloc (by simp) _).alloc (by simp; omega) _
  have hp2 : w2.heap[w1.heap.size]? = some (.cells #[.pointer (some ⟨pb, 0, none⟩)] 77) := by rw [hw2]; exact (Below.heap_alloc _ _ _ (by simp; omega)).trans (heap_old1 _ _ _)
  have hf2 : w2.heap[w1.heap.size + 1]? = some (.cells #[.bool (!([] : List Grp).isEmpty)] 4) := by rw [hw2]; exact (Below.heap_alloc _ _ _ (by simp)).trans (heap_new1 _ _ _)
  have hv2 : w2.heap[w1.heap.size + 2]? = some (.cells #[.int .i64 (99 - (0 : Nat))] 3) := by
    rw [hw2]
    have := World.alloc_heap_new ((w1.alloc (.cells #[.pointer (some ⟨pb, 0, none⟩)] 77)).alloc (.cells #[.bool false] 4)) (.cells #[.int .i64 99] 3)
    simpa using this
  rw [← hw2]
  clear hw2
  have HB2 := Lib.hid hb2
  have HP2 := Lib.hid hp2
  have hwk2 := HWK.out.below hb2
  obtain ⟨b1, hb1e⟩ : ∃ b1, w1.heap.size = b1 := ⟨_, rfl⟩
  have hbsz := HBW.out.size
  rw [hb1e] at hs2 hsz hb2 hp2 hf2 hv2 HB2 HP2 hwk2 hbsz ⊢
  have HE := Lib.hid hb1e
  clear hb1e
  refine wpIn_truths F hF hd hro hfn (by omega) M HV'.out 0 (by omega) pb b1 rfl hwk2 (by omega) rfl (fun k => k = b1 + 1 ∨ k = b1 + 2) (fun k hk => by omega)
    (fun pre W => ∃ v, UInv M weight load pre v ∧ W.heap[b1 + 2]? = some (.cells #[.int .i64 (99 - (v : Nat))] 3) ∧ W.heap[b1 + 1]? = some (.cells #[.bool (!pre.isEmpty)] 4)) (fun _ _ _ => False)
    (fun s A A' ⟨v, h1, h2, h3⟩ hk => ⟨v, h1, (hk.block _ (heap_lt h2) (by omega)).trans h2, (hk.block _ (heap_lt h3) (by omega)).trans h3⟩) (fun _ _ _ _ h _ => h) ⟨0, UInv.zero M weight load, hv2, hf2⟩
    (fun tm W g => { tmps := (tm.setIfInBounds 25 (grpV M 0 g)).setIfInBounds 12 (.pointer (some ⟨W.heap.size, 0, none⟩)), defers := [] }) ?assign ?body ?done ?stop
  case assign =>
    intro l x W K hK
    rw [grpV_eq] at hK ⊢
    obtain ⟨x0, x1, x2, y0, y1, y2, lk, gm, hgc⟩ : ∃ x0 x1 x2 y0 y1 y2 lk gm, grpC M 0 x = nine x0 x1 x2 lk y0 y1 y2 gm := ⟨_, _, _, _, _, _, _, _, rfl⟩
    rw [hgc] at hK ⊢
    unfold nine at hK ⊢
    gi_wp2
    exact hK
  case body =>
    intro l pre x V U hpre hI hkb hV2 hVU hgb hwU
    obtain ⟨v, hinv, hbv, hbf⟩ := hI
    have HLK := Lib.hid (show ∀ g ∈ pre, 0 ≤ g.leak from fun g hg => by
      have h1 := (grp_ok HV'.out (List.mem_filter.1 (hpre.subset (List.mem_append_left _ hg))).1).leak
      have h2 := HV'.out.leak
      omega)
    have hxg : x ∈ grpL M 0 := (List.mem_filter.1 (hpre.subset (show x ∈ pre ++ [x] by simp))).1
    obtain ⟨x0, x1, x2, y0, y1, y2, hgc, _, hy012, _, hhi, hl0, hl20⟩ := grp_form HV'.out (by decide) hxg
    rw [grpV_eq]
    obtain ⟨lk, hlk⟩ : ∃ lk, x.leak = lk := ⟨_, rfl⟩
    obtain ⟨gm, hgm⟩ : ∃ gm, x.many = gm := ⟨_, rfl⟩
    rw [hgc, hlk, hgm] at hgb ⊢
    unfold nine at hgb ⊢
    have HPW := Lib.hid (fun u : Nat => show pU M weight load x u = pullsB M weight (99 - (u : Nat)) load lk (y0 * y1 * y2) by rw [pU, hhi, hlk])
    have hxp := (hkb.block b1 (by omega) (by omega)).trans HP2.out
    have hxm := ((hkb.block (w.heap.size + 1) (by omega) (by omega)).trans (HB2.out.block (w.heap.size + 1) (by omega))).trans HM1.out
    have hxl := ((hkb.block (w.heap.size + 2) (by omega) (by omega)).trans (HB2.out.block (w.heap.size + 2) (by omega))).trans HL1.out
    obtain ⟨t1, t12, _⟩ := hwU.three
    have hpb := hwU.1
    have hUs := hkb.size
    have HINV := Lib.hid hinv
    have HBV := Lib.hid hbv
    have HGB := Lib.hid hgb
    have HXP := Lib.hid hxp
    have HXM := Lib.hid hxm
    have HXL := Lib.hid hxl
    have HT1 := Lib.hid t1
    have HT12 := Lib.hid t12
    obtain ⟨d1, d2⟩ := cell1_of hbf
    rw [hlk] at hl0 hl20
    obtain ⟨GB, hGB⟩ : ∃ GB, V.heap.size = GB := ⟨_, rfl⟩
    rw [hGB] at hV2 hVU HGB ⊢
    have hle := hinv.le
    clear hgb hxp hxm hxl t1 t12 hinv hbv hkb hpre hlk hgm hhi hGB hgc hxg hwU hwk2 hb2 hp2 hf2 hv2
    gi_wp2_with fail
    obtain ⟨U1, hU1⟩ : ∃ U1, U.setCell ⟨b1 + 1, 0, none⟩ (.bool true) = U1 := ⟨_, rfl⟩
    have hU1k : KeptBut (fun k => k = b1 + 1) U U1 := by rw [← hU1]; exact KeptBut.setCell _ _ _ rfl
    have hU1f : U1.heap[b1 + 1]? = some (.cells #[.bool true] 4) := by rw [← hU1]; exact set_box _ hbf
    rw [hU1]
    have hU1s := hU1k.size
    have HUK := Lib.hid hU1k
    have HU1F := Lib.hid hU1f
    have HUV := Lib.hid ((hU1k.block (b1 + 2) (heap_lt HBV.out) (by omega)).trans HBV.out)
    clear hU1 hU1k hU1f d1 d2 hbf HBV
    gi_loopw [38] (fun _ wr => ∃ v' : Nat, v ≤ v' ∧ v' ≤ 100 ∧ Hid (∀ u, v ≤ u → u < v' → pU M weight load x u = false) ∧ Hid (wr.heap[b1 + 2]? = some (.cells #[.int .i64 (99 - (v' : Nat))] 3)) ∧ Hid (KeptBut (fun k => k = b1 + 2) U1 wr)) (fun _ wr => boxJ wr (b1 + 2))
    case atStart => exact ⟨v, by omega, hle, Lib.hid (fun u h1 h2 => by omega), HUV, Lib.hid (KeptBut.refl _ _)⟩
    case round =>
      clear HUV
      obtain ⟨v', hv1, hv2', hno, hbv, hk⟩ := hrel
      have hks := hk.out.size
      have hkk : ∀ k, k < U.heap.size → k ≠ b1 + 1 → k ≠ b1 + 2 → wr.heap[k]? = U.heap[k]? := fun k h1 h2 h3 => (hk.out.block k (by omega) h3).trans (HUK.out.block k h1 h2)
      have hp1 := (hkk pb (by omega) (by omega) (by omega))
      have k1 := (World.cell?_of_block (w := U) (a := ⟨pb, 1, none⟩) hp1).trans HT1.out
      have k12 := (World.cell?_of_block (w := U) (a := ⟨pb, 12, none⟩) hp1).trans HT12.out
      have hgb := (hkk GB (by omega) (by omega) (by omega)).trans HGB.out
      obtain ⟨g0, g1, g2, g3, g4, g5, g6, g7, g8⟩ := cells9 hgb
      have e8 := (cell1_of ((hkk b1 (by omega) (by omega) (by omega)).trans HXP.out)).1
      have e4 := (cell1_of ((hkk (w.heap.size + 1) (by omega) (by omega) (by omega)).trans HXM.out)).1
      have e5 := (cell1_of ((hkk (w.heap.size + 2) (by omega) (by omega) (by omega)).trans HXL.out)).1
      obtain ⟨d1, d2⟩ := cell1_of hbv.out
      have HGB1 := Lib.hid hgb
      clear hp1 hkk hgb
      have hbi := boxJ_of hv2' hbv.out
      have HBI := Lib.hid hbi
      clear hbi
      by_cases hlt : v' < 100
      · have hlt1 : (0 : Int) ≤ 99 - (v' : Nat) := by omega
        have HPC := Lib.hid (fun m => CallsIn.inRound l (inF hF (n := m) (pulls_any M HV'.out pb y0 y1 y2 lk weight (99 - (v' : Nat)) load wr (by omega) hmn ⟨by omega, by omega⟩ hld ⟨hl0, hl20⟩ hy012.1 hy012.2.1 hy012.2.2 k1 k12)))
        cases hpw : pU M weight load x v' with
        | true =>
          have hpv := (HPW.out v').symm.trans hpw
          rw [hpv] at HPC
          gi_wp2_with fail
          refine (HPC.out _).mono ?_
          rintro e w4 ⟨rfl, hb4⟩
          have HB4 := Lib.hid hb4
          clear hb4
          gi_wp2_with fail
          have HB5 := HB4.out
          refine ⟨((HUK.out.mono (fun k _ h => .inl h)).trans (hk.out.mono (fun k _ h => .inr h))).trans (KeptBut.of_below HB5), v', HINV.out.next HV'.out HLK.out hv1 hv2' hno.out (fun _ => hpw), (HB5.block _ (heap_lt hbv.out)).trans hbv.out, ?_⟩
          have hfl := (hk.out.block (b1 + 1) (heap_lt HU1F.out) (by omega)).trans HU1F.out
          rw [show (!(pre ++ [x]).isEmpty) = true by simp]
          exact (HB5.block (b1 + 1) (heap_lt hfl)).trans hfl
        | false =>
          have hpv := (HPW.out v').symm.trans hpw
          rw [hpv] at HPC
          gi_wp2_with fail
          refine (HPC.out _).mono ?_
          rintro e w4 ⟨rfl, hb4⟩
          have HB4 := Lib.hid hb4
          have hb4v := (hb4.block (b1 + 2) (heap_lt hbv.out)).trans hbv.out
          obtain ⟨d3, d4⟩ := cell1_of hb4v
          have HV4 := Lib.hid hb4v
          clear hb4 hb4v d1 d2 e4 e5 e8 g0 g1 g2 g3 g4 g5 g6 g7 g8 k1 k12
          gi_wp2_with fail
          have hsb : (w4.setCell ⟨b1 + 2, 0, none⟩ (.int .i64 (99 - (v' : Int) - 1))).heap[b1 + 2]? = some (.cells #[.int .i64 (99 - ((v' + 1 : Nat) : Int))] 3) := by rw [show (99 : Int) - ((v' + 1 : Nat) : Int) = 99 - (v' : Int) - 1 by omega]; exact set_box _ HV4.out
          refine ⟨⟨v' + 1, by omega, by omega, Lib.hid (fun u h1 h2 => ?_), Lib.hid hsb, Lib.hid ((hk.out.trans (KeptBut.of_below HB4.out)).trans (KeptBut.setCell _ _ _ rfl))⟩, ?_⟩
          · by_cases e : u = v'
            · rw [e]; exact hpw
            · exact hno.out u h1 (by omega)
          · show boxJ (w4.setCell ⟨b1 + 2, 0, none⟩ (.int .i64 (99 - (v' : Int) - 1))) (b1 + 2) < _
            rw [boxJ_of (by omega) hsb, HBI.out]
            omega
      · have hve : v' = 100 := by omega
        subst hve
        have hlt1 : ¬ (0 : Int) ≤ 99 - ((100 : Nat) : Int) := by omega
        clear e4 e5 e8 g0 g1 g2 g3 g4 g5 g6 g7 g8 k1 k12
        gi_wp2_with fail
        refine ⟨(HUK.out.mono (fun k _ h => .inl h)).trans (hk.out.mono (fun k _ h => .inr h)), 100, HINV.out.next HV'.out HLK.out hv1 hv2' hno.out (fun h => by omega), hbv.out, ?_⟩
        have hfl := (hk.out.block (b1 + 1) (heap_lt HU1F.out) (by omega)).trans HU1F.out
        rw [show (!(pre ++ [x]).isEmpty) = true by simp]
        exact hfl
  case done =>
    rintro D W hD hkb ⟨v, hinv, hbv, hbf⟩ hK
    have hfin : Below w.heap.size w (W.putObj D (.deferred none)) := ((HBW.out.trans (HB2.out.mono hbsz)).trans (hkb.below (by omega) (fun k hk => by omega))).trans (putObj_below _ _ (by omega))
    obtain ⟨d1, d2⟩ := cell1_of hbv
    obtain ⟨d3, d4⟩ := cell1_of hbf
    have hls := hinv.last HV'.out hld.1
    have hle := hinv.le
    have hgn := grpT_none HV'.out (lev := 0) (by decide)
    have hwa : untilA M weight load = if (grpT M 0).isEmpty = true ∨ 100 ≤ v then ((0 : Int), (3 : Int)) else (99 - ((v : Nat) : Int), 0) := by unfold untilA; rw [hls, hgn]
    obtain ⟨eb, heb⟩ : ∃ eb, (grpT M 0).isEmpty = eb := ⟨_, rfl⟩
    rw [heb] at d3 hwa
    have HWA := Lib.hid hwa
    clear hwa hgn hls hinv hbv hbf hwk2 hb2 hp2 hf2 hv2 heb hs2 hD
    cases eb with
    | true =>
      rw [if_pos (.inl rfl)] at HWA
      gi_wp2
      refine ⟨by simp, .inl ⟨_, _, rfl, run_takeDeferred hK, ?_⟩⟩
      exact ⟨_, results_tmp2 rfl _ _ _, by rw [HWA.out]; rfl, hfin⟩
    | false =>
      by_cases hv : 100 ≤ v
      · have hve : v = 100 := by omega
        subst hve
        rw [if_pos (.inr hv)] at HWA
        gi_wp2
        refine ⟨by simp, .inl ⟨_, _, rfl, run_takeDeferred hK, ?_⟩⟩
        exact ⟨_, results_tmp2 rfl _ _ _, by rw [HWA.out]; rfl, hfin⟩
      · rw [if_neg (by simp [hv])] at HWA
        have hv9 : ¬ (99 : Int) - (v : Nat) < 0 := by omega
        gi_wp2
        refine ⟨by simp, .inl ⟨_, _, rfl, run_takeDeferred hK, ?_⟩⟩
        exact ⟨_, results_tmp2 rfl _ _ _, by rw [HWA.out]; rfl, hfin⟩
  case stop =>
    rintro D c pre W _ _ _ h _
    exact h.elim
theorem Until_any (v : Value) (M : Mach) (weight load : Int) (w : World) (hx : MachAt w.heap.size w v M) (hV : validMB M = true) (ha : askB weight 0 load 0 = true) :
    Calls Try.prog 36 #[v, .int .i64 weight, .int .i64 load] w fun e w' => e = .returned (.tuple #[.int .i64 (untilA M weight load).1, .int .i64 (untilA M weight load).2]) ∧ Below w.heap.size w w' :=
  wide_calls (Until_in Fence.wide rfl rfl rfl (fun _ => trivial) 9 (by omega) v M weight load w hx hV ha)
end Go.Proofs.Ytomcjopcfdllgaa
