/-
  Links, walks: whether a sight is right, and how many are not.
  Links, walks: how many sights are not right.
-/
import Derived.Test.YtgjikoebneiamaaLSeq
import Derived.Deep.RegionHeld3

namespace Go.Proofs.Ytgjikoebneiamaa
open Go.RowKit Go.Sort

theorem cell_more {W : World} {b i : Nat} {v : Value} {o : Obj} (h : W.cell? ⟨b, i, none⟩ = some v) : (W.alloc o).cell? ⟨b, i, none⟩ = some v :=
  (((Below.refl W.heap.size W).alloc (Nat.le_refl _) o).cell (p := ⟨b, i, none⟩) (World.block_lt_of_cell? W ⟨b, i, none⟩ h)).trans h

theorem story_link {C : Chain} (hV : Valid C) (ends : List Int) {k : Nat} (hk : k ≤ C.deeds.length) {j : Nat} (hj : j < (story C.deeds ends k).length) :
    ∃ q : Nat, nth (story C.deeds ends k) j = q ∧ q < weldsTo C.deeds C.deeds.length := by
  have := (story_ok (ends := ends) hV.deed k hk).2.2 _ (nth_mem hj)
  have hm := weldsTo_mono C.deeds hk
  exact ⟨(nth (story C.deeds ends k) j).toNat, by omega, by omega⟩

set_option maxRecDepth 100000 in
set_option maxHeartbeats 4000000 in
theorem isRight_any (bv : Value) (C : Chain) (hV : Valid C) (ends : List Int) (s : Sight) (hs : sightAll C.deeds s = true) (Bp Bm : Nat) (w : World) {B : Nat} (hx : BookAt B w bv C) (hB : B ≤ w.heap.size)
    (hp : PastTo C.deeds.length Bp Bm (story C.deeds ends) C.deeds.length w) :
    Calls Try.prog 93 #[bv, pastV C.deeds.length Bp, sV s] w fun r w' => r = .returned (.bool (rightB C.deeds ends s)) ∧ Below w.heap.size w w' := by
  obtain ⟨dv, sv, mv, rfl, hC, hM⟩ := hx
  obtain ⟨a, cap, b, off, a2, cap2, b2, off2, hv, hm, hm2, hcap, hcapm, HA, HC, HA2, HC2, HI, HI2⟩ := hC.opened
  cases hv
  obtain ⟨bm, rfl, hbm, hm12, hmc⟩ := hM
  obtain ⟨sa, sb, sc, sd, se, sf, sg, sh, si, sj⟩ := sightIs hs
  obtain ⟨k, hk⟩ : ∃ k : Nat, s.after = k := ⟨s.after.toNat, by omega⟩
  have hkn : k ≤ C.deeds.length := by omega
  have hlen := (story_ok (ends := ends) hV.deed k hkn).1
  have hkk : s.after.toNat = k := by omega
  rw [hkk] at sd
  have hfh := fromHead_lt (a := s.at_) (f := s.from_) (n := (story C.deeds ends k).length) sc (by omega)
  obtain ⟨p, hpe⟩ : ∃ p : Nat, fromHead s.at_ s.from_ (story C.deeds ends k).length = p := ⟨_, (Int.toNat_of_nonneg hfh.1).symm⟩
  have hpl : p < (story C.deeds ends k).length := by omega
  obtain ⟨q, hq, hqw⟩ := story_link hV ends hkn hpl
  have hI : I64 (fromHead s.at_ s.from_ (story C.deeds ends k).length) := by rw [hpe]; unfold I64; have := hp.len k hkn; omega
  have hl12 := hp.len k hkn
  have hr : rightB C.deeds ends s = ((decide (s.bar < 0) || decide (s.bar = (dnth (weldL C.deeds) q).bar)) && (decide (s.smith < 0) || decide (s.smith = (dnth (weldL C.deeds) q).smith))) := by
    simp only [rightB, hkk, hpe, Int.toNat_natCast, hq, markD]
  have HR := Lib.hid hr
  have x0 := hdr_cell hp hkn
  obtain ⟨f, hR, hH⟩ := hp.mem
  have x1 : w.cell? ⟨Bm, k * 12 + p, none⟩ = some (.int .i64 q) := by rw [hR.cell (by omega), hH k hkn p hpl, hq]
  obtain ⟨x2, x3⟩ := hmc q hqw
  have hltp := hp.ltp
  have hltm := hp.ltm
  have hbmw : bm < w.heap.size := by omega
  have hnd := hV.nd
  have hfr := fun w => fromHead_any s.at_ s.from_ (story C.deeds ends k).length w hI (by omega) (by omega)
  rw [hpe] at hfr
  have HFR := Lib.hid hfr
  clear hC hp hR hH hmc hs HA HC HA2 HC2 HI HI2 hr hfr hfh hpe hI hlen hq sa sb sc sd se sf sg sh si sj hkk
  unfold sV
  rw [hk]
  go_enter Try.func93, Try.ntmps93
  obtain ⟨W, hW⟩ : ∃ W, W = (w.alloc (.cells #[.slice a C.deeds.length cap, .slice a2 C.sights.length cap2, .int .i64 C.wrong, .slice (some ⟨bm, 0, none⟩) (weldsTo C.deeds C.deeds.length) 12] 84)).alloc (.cells #[.int .i64 k, .int .i64 s.at_, .int .i64 s.from_, .int .i64 s.bar, .int .i64 s.smith] 60) := ⟨_, rfl⟩
  have hbW : Below w.heap.size w W := hW ▸ ((Below.refl _ w).alloc (Nat.le_refl _) _).alloc (by simp) _
  have y0 := (hbW.cell (p := ⟨Bp, k, none⟩) hltp).trans x0
  have y1 := (hbW.cell (p := ⟨Bm, k * 12 + p, none⟩) hltm).trans x1
  have y2 := (hbW.cell (p := ⟨bm, q * 2, none⟩) hbmw).trans x2
  have y3 := (hbW.cell (p := ⟨bm, q * 2 + 1, none⟩) hbmw).trans x3
  have hb0 : W.heap[w.heap.size]? = some (.cells #[.slice a C.deeds.length cap, .slice a2 C.sights.length cap2, .int .i64 C.wrong, .slice (some ⟨bm, 0, none⟩) (weldsTo C.deeds C.deeds.length) 12] 84) := hW ▸ heap_old1 _ _ _
  have hb1 : W.heap[w.heap.size + 1]? = some (.cells #[.int .i64 k, .int .i64 s.at_, .int .i64 s.from_, .int .i64 s.bar, .int .i64 s.smith] 60) := hW ▸ heap_new1 _ _ _
  obtain ⟨b0, b1, b2, b3⟩ := box4' hb0
  obtain ⟨f0, f1, f2, f3, f4⟩ := five_of hb1
  have hlt0 : w.heap.size < W.heap.size := heap_lt hb0
  have hlt1 : w.heap.size + 1 < W.heap.size := heap_lt hb1
  have hltpW : Bp < W.heap.size := by omega
  have hltmW : Bm < W.heap.size := by omega
  have hbmW : bm < W.heap.size := by omega
  have HW := Lib.hid hW
  have HBW := Lib.hid hbW
  clear hW hbW hb0 hb1
  go_upto_region 2 with fail
  rw [← HW.out]
  clear x0 x1 x2 x3
  go_region_held3 (fun w' => w'.cell? ⟨w.heap.size, 3, none⟩ = some (.slice (some ⟨bm, 0, none⟩) (weldsTo C.deeds C.deeds.length) 12) ∧ w'.cell? ⟨w.heap.size + 1, 1, none⟩ = some (.int .i64 s.at_) ∧ w'.cell? ⟨w.heap.size + 1, 2, none⟩ = some (.int .i64 s.from_) ∧
      w'.cell? ⟨Bm, k * 12 + p, none⟩ = some (.int .i64 q) ∧ w'.cell? ⟨bm, q * 2, none⟩ = some (.int .i64 (dnth (weldL C.deeds) q).bar) ∧ w'.cell? ⟨bm, q * 2 + 1, none⟩ = some (.int .i64 (dnth (weldL C.deeds) q).smith))
    (first
      | exact ⟨b3, f1, f2, y1, y2, y3⟩
      | exact ⟨cell_more b3, cell_more f1, cell_more f2, cell_more y1, cell_more y2, cell_more y3⟩)
    (first
      | (go_at_call 117; refine (HFR.out _).mono ?_; rintro e w' ⟨rfl, rfl⟩))
  all_goals
    by_cases hb1 : s.bar < 0
    · by_cases hs1 : s.smith < 0
      · go_wp2_with fail
        go_ret
        exact ⟨ret_bool (by rw [HR.out, Bool.eq_iff_iff]; first | (simp; done) | (simp; omega)), HBW.out.trans ((show Below W.heap.size W _ by go_grown).mono HBW.out.size)⟩
      · by_cases hs2 : s.smith = (dnth (weldL C.deeds) q).smith
        · go_wp2_with fail
          go_ret
          exact ⟨ret_bool (by rw [HR.out, Bool.eq_iff_iff]; first | (simp; done) | (simp; omega)), HBW.out.trans ((show Below W.heap.size W _ by go_grown).mono HBW.out.size)⟩
        · go_wp2_with fail
          go_ret
          exact ⟨ret_bool (by rw [HR.out, Bool.eq_iff_iff]; first | (simp; done) | (simp; omega)), HBW.out.trans ((show Below W.heap.size W _ by go_grown).mono HBW.out.size)⟩
    · by_cases hb2 : s.bar = (dnth (weldL C.deeds) q).bar
      · by_cases hs1 : s.smith < 0
        · go_wp2_with fail
          go_ret
          exact ⟨ret_bool (by rw [HR.out, Bool.eq_iff_iff]; first | (simp; done) | (simp; omega)), HBW.out.trans ((show Below W.heap.size W _ by go_grown).mono HBW.out.size)⟩
        · by_cases hs2 : s.smith = (dnth (weldL C.deeds) q).smith
          · go_wp2_with fail
            go_ret
            exact ⟨ret_bool (by rw [HR.out, Bool.eq_iff_iff]; first | (simp; done) | (simp; omega)), HBW.out.trans ((show Below W.heap.size W _ by go_grown).mono HBW.out.size)⟩
          · go_wp2_with fail
            go_ret
            exact ⟨ret_bool (by rw [HR.out, Bool.eq_iff_iff]; first | (simp; done) | (simp; omega)), HBW.out.trans ((show Below W.heap.size W _ by go_grown).mono HBW.out.size)⟩
      · go_wp2_with fail
        go_ret
        exact ⟨ret_bool (by rw [HR.out, Bool.eq_iff_iff]; first | (simp; done) | (simp; omega)), HBW.out.trans ((show Below W.heap.size W _ by go_grown).mono HBW.out.size)⟩

theorem isRight_to {bv : Value} {C : Chain} (hV : Valid C) {ends : List Int} {s : Sight} (hs : sightAll C.deeds s = true) {Bp Bm : Nat} {w : World} {B : Nat} {r : Bool} (h : rightB C.deeds ends s = r) (hx : BookAt B w bv C) (hB : B ≤ w.heap.size)
    (hp : PastTo C.deeds.length Bp Bm (story C.deeds ends) C.deeds.length w) :
    Calls Try.prog 93 #[bv, pastV C.deeds.length Bp, sV s] w fun e w' => e = .returned (.bool r) ∧ Below w.heap.size w w' := h ▸ isRight_any bv C hV ends s hs Bp Bm w hx hB hp

end Go.Proofs.Ytgjikoebneiamaa

namespace Go.Proofs.Ytgjikoebneiamaa
open Go.RowKit Go.Sort

set_option maxRecDepth 100000 in
set_option maxHeartbeats 2000000 in
theorem notRight_any (bv : Value) (C : Chain) (hV : Valid C) (ends : List Int) (Bp Bm : Nat) (w : World) {B : Nat} (hx : BookAt B w bv C) (hB : B ≤ w.heap.size)
    (hp : PastTo C.deeds.length Bp Bm (story C.deeds ends) C.deeds.length w) :
    Calls Try.prog 73 #[bv, pastV C.deeds.length Bp] w fun r w' => r = .returned (.int .i64 (wrongs C ends)) ∧ Below w.heap.size w w' := by
  have hx' := hx
  obtain ⟨dv, sv, mv, rfl, hC, hM⟩ := hx
  obtain ⟨a, cap, b, off, a2, cap2, b2, off2, hv, hm, hm2, hcap, hcapm, HA, HC, HA2, HC2, HI, HI2⟩ := hC.opened
  cases hv
  have hns := hV.ns
  have HS := Lib.hid hV.sight
  have HX := Lib.hid (fun W (h : Below w.heap.size w W) => hx'.below (h.mono hB))
  have HP := Lib.hid (fun W (h : Below w.heap.size w W) => hp.kept (own := fun _ => False) (W' := W) ⟨h.os, h.tape, h.output, h.size, fun k hk _ => h.block k hk⟩ (fun h => h) (fun h => h))
  clear hC hM hx' hp HA HC HI
  go_enter Try.func73, Try.ntmps73
  go_wp2_with fail
  go_loopw [5, 12] (fun c i wr => ∃ k : Nat, k ≤ C.sights.length ∧ i = .int .i64 k ∧ c = .int .i64 (wrongsTo C ends k) ∧ Below (w.heap.size + 1) (w.alloc (.cells #[.slice a C.deeds.length cap, .slice a2 C.sights.length cap2, .int .i64 C.wrong, mv] 84)) wr) (fun _ i _ => C.sights.length - (intOf i).toNat)
  case atStart => exact ⟨0, Nat.zero_le _, rfl, rfl, Below.refl _ _⟩
  case round =>
    obtain ⟨k, hk, rfl, rfl, hbl⟩ := hrel
    have hw := boxed hbl
    have hsz := boxed_size hbl
    have hlt0 : w.heap.size < wr.heap.size := by omega
    obtain ⟨c0, c1, c2, c3⟩ := box4' ((hbl.block w.heap.size (by omega)).trans (heap_new w _))
    obtain ⟨hle1, hle2⟩ := wrongsTo_le C ends k
    by_cases hlt : k < C.sights.length
    · obtain ⟨rfl, hbB⟩ := HA2.out (by omega)
      obtain ⟨d0, d1, d2, d3, d4⟩ := (HC2.out k hlt).below (hw.mono hB) hbB
      have hgr : ∀ W, Below wr.heap.size wr W → Below w.heap.size w W := fun W h => hw.trans (h.mono hw.size)
      have HGR := Lib.hid hgr
      have HBL := Lib.hid hbl
      clear hgr hbl hw
      cases hr : rightB C.deeds ends (snth C.sights k)
      all_goals
        have HR := Lib.hid hr
        clear hr
        go_wp2_with fail
        refine (isRight_to hV (HS.out k hlt) HR.out (HX.out _ (HGR.out _ (by go_grown))) (Nat.le_trans hB (HGR.out _ (by go_grown)).size) (HP.out _ (HGR.out _ (by go_grown)))).mono ?_
        rintro e w' ⟨rfl, hb'⟩
        have hbl2 := HBL.out.trans (((show Below wr.heap.size wr _ by go_grown).trans (hb'.mono (by simp; try omega))).mono (by omega))
        have HBL2 := Lib.hid hbl2
        clear hb' hbl2
        go_wp2_with fail
      · exact ⟨⟨k + 1, by omega, by go_num, by simp only [wrongsTo, HR.out]; go_num, HBL2.out⟩, by simp [intOf]; omega⟩
      · exact ⟨⟨k + 1, by omega, by go_num, by simp [wrongsTo, HR.out], HBL2.out⟩, by simp [intOf]; omega⟩
    · obtain rfl : C.sights.length = k := by omega
      go_wp2_with fail
      go_ret
      exact ⟨rfl, hw⟩

end Go.Proofs.Ytgjikoebneiamaa
