/-
  Links, walks: how many sights are not right.
-/
import Derived.Test.YtdkiccndoanlpaaLRight

namespace Go.Proofs.Ytdkiccndoanlpaa
open Go.RowKit Go.Sort

set_option maxRecDepth 100000 in
set_option maxHeartbeats 2000000 in
theorem notRight_any (bv : Value) (C : Chain) (hV : Valid C) (ends : List Int) (Bp Bm : Nat) (w : World) {B : Nat} (hx : BookAt B w bv C) (hB : B ≤ w.heap.size)
    (hp : PastTo C.deeds.length Bp Bm (story C.deeds ends) C.deeds.length w) :
    Calls Try.prog 73 #[bv, pastV C.deeds.length Bp] w fun r w' => r = .returned (.int .i64 (wrongs C ends)) ∧ Below w.heap.size w w' := by
  have hx' := hx
  obtain ⟨dv, sv, mv, rfl, hC, hM⟩ := hx
  obtain ⟨a, cap, b, off, a2, cap2, b2, off2, hv, hm, hm2, hcap, hcapm, HA, HC, HA2, HC2, HI, HI2⟩ := hC.opened
  cases hv
  have hns := hV.ns
  have HS := Lib.hid hV.sight
  have HX := Lib.hid (fun W (h : Below w.heap.size w W) => hx'.below (h.mono hB))
  have HP := Lib.hid (fun W (h : Below w.heap.size w W) => hp.kept (own := fun _ => False) (W' := W) ⟨h.os, h.tape, h.output, h.size, fun k hk _ => h.block k hk⟩ (fun h => h) (fun h => h))
  clear hC hM hx' hp HA HC HI
  go_enter Try.func73, Try.ntmps73
  go_wp2_with fail
  go_loopw [5, 12] (fun c i wr => ∃ k : Nat, k ≤ C.sights.length ∧ i = .int .i64 k ∧ c = .int .i64 (wrongsTo C ends k) ∧ Below (w.heap.size + 1) (w.alloc (.cells #[.slice a C.deeds.length cap, .slice a2 C.sights.length cap2, .int .i64 C.wrong, mv] 84)) wr) (fun _ i _ => C.sights.length - (intOf i).toNat)
  case atStart => exact ⟨0, Nat.zero_le _, rfl, rfl, Below.refl _ _⟩
  case round =>
    obtain ⟨k, hk, rfl, rfl, hbl⟩ := hrel
    have hw := boxed hbl
    have hsz := boxed_size hbl
    have hlt0 : w.heap.size < wr.heap.size := by omega
    obtain ⟨c0, c1, c2, c3⟩ := box4' ((hbl.block w.heap.size (by omega)).trans (heap_new w _))
    obtain ⟨hle1, hle2⟩ := wrongsTo_le C ends k
    by_cases hlt : k < C.sights.length
    · obtain ⟨rfl, hbB⟩ := HA2.out (by omega)
      obtain ⟨d0, d1, d2, d3, d4⟩ := (HC2.out k hlt).below (hw.mono hB) hbB
      have hgr : ∀ W, Below wr.heap.size wr W → Below w.heap.size w W := fun W h => hw.trans (h.mono hw.size)
      have HGR := Lib.hid hgr
      have HBL := Lib.hid hbl
      clear hgr hbl hw
      cases hr : rightB C.deeds ends (snth C.sights k)
      all_goals
        have HR := Lib.hid hr
        clear hr
        go_wp2_with fail
        refine (isRight_to hV (HS.out k hlt) HR.out (HX.out _ (HGR.out _ (by go_grown))) (Nat.le_trans hB (HGR.out _ (by go_grown)).size) (HP.out _ (HGR.out _ (by go_grown)))).mono ?_
        rintro e w' ⟨rfl, hb'⟩
        have hbl2 := HBL.out.trans (((show Below wr.heap.size wr _ by go_grown).trans (hb'.mono (by simp; try omega))).mono (by omega))
        have HBL2 := Lib.hid hbl2
        clear hb' hbl2
        go_wp2_with fail
      · exact ⟨⟨k + 1, by omega, by go_num, by simp only [wrongsTo, HR.out]; go_num, HBL2.out⟩, by simp [intOf]; omega⟩
      · exact ⟨⟨k + 1, by omega, by go_num, by simp [wrongsTo, HR.out], HBL2.out⟩, by simp [intOf]; omega⟩
    · obtain rfl : C.sights.length = k := by omega
      go_wp2_with fail
      go_ret
      exact ⟨rfl, hw⟩

end Go.Proofs.Ytdkiccndoanlpaa
