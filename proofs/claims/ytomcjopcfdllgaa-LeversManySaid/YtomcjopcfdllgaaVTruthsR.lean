/-
  Levers, the law's reference: all truths, or the error.
-/
import Derived.Test.YtomcjopcfdllgaaVSets

namespace Go.Proofs.Ytomcjopcfdllgaa
open Go.RowKit Go.Shelf

/-- A row of settings and an error are the answer. -/
def GaveT (xs : List (List Int × Int)) (er : Int) (w : World) (e : Ending) (w' : World) : Prop := ∃ u, e = .returned (.tuple #[u, .int .i64 er]) ∧ SetsAt w' w.heap.size u xs ∧ Below w.heap.size w w'
theorem inSet_i64 {M : Mach} {x : List Int} {k : Int} (h : InSet M x k) : ∀ y ∈ x, I64 y := fun y hy => by
  obtain ⟨i, hi, rfl⟩ := List.getElem_of_mem hy
  have := h.2.1 i hi
  rw [nth_lt hi] at this
  unfold I64
  omega
/-- The truths among the first settings. -/
def trTo (M : Mach) (k : Nat) : List (List Int × Int) := ((setsM M).take k).filter (fun s => truthB M s.2 (prodL s.1))
theorem trTo_succ {M : Mach} {k : Nat} (h : k < (setsM M).length) : trTo M (k + 1) = trTo M k ++ (if truthB M (snth (setsM M) k).2 (prodL (snth (setsM M) k).1) = true then [snth (setsM M) k] else []) := by
  rw [trTo, List.take_succ_eq_append_getElem h, List.filter_append, ← snth_lt h]
  congr 1
  simp only [List.filter_cons, List.filter_nil]
theorem trTo_all (M : Mach) : trTo M (setsM M).length = truthsM M := by rw [trTo, List.take_length, truths_are]
theorem trTo_len (M : Mach) (k : Nat) : (trTo M k).length ≤ (setsM M).length := Nat.le_trans (List.length_filter_le _ _) (by rw [List.length_take]; omega)
theorem sets_len {M : Mach} (hV : ValidM M) : (setsM M).length ≤ 21000000000 := by
  have h := setsFrom_len hV M.levers.length [] (by simp)
  rw [setsFrom_nil] at h
  have h6 : 1000 ^ M.levers.length ≤ 1000000000 := Nat.pow_le_pow_right (n := 1000) (by omega) (show M.levers.length ≤ 3 from hV.nl)
  omega
set_option maxRecDepth 100000 in
set_option maxHeartbeats 4000000 in
theorem truths_bad {M : Mach} (hv : validMB M = false) (v : Value) (b : Bool) (w : World) (hx : MachAt w.heap.size w v M) : Calls Try.prog 70 #[v, .bool b] w (GaveT [] 30 w) := by
  have HX := Lib.hid (fun W (hb : Below w.heap.size w W) => (hx.below hb).mono hb.size)
  obtain ⟨a, cap, a2, cap2, rfl⟩ := hx.form
  have HCK := Lib.hid (fun W hb => rCheck_any _ M W (HX.out W hb))
  rw [chk_bad hv] at HCK
  clear hx
  go_enter Try.func70, Try.ntmps70
  go_wp2_with (go_at_call 41; refine (HCK.out _ (by go_grown)).mono ?_; rintro e w1 ⟨rfl, hb⟩; have HB := Lib.hid ((show Below w.heap.size w _ by go_grown).trans (hb.mono (by simp))); clear hb)
  go_ret2
  exact ⟨_, rfl, SetsAt.nil _ _, HB.out⟩
set_option maxRecDepth 100000 in
set_option maxHeartbeats 4000000 in
theorem truths_arg {M : Mach} (hv : validMB M = true) (v : Value) (w : World) (hx : MachAt w.heap.size w v M) : Calls Try.prog 70 #[v, .bool false] w (GaveT [] 1 w) := by
  have HX := Lib.hid (fun W (hb : Below w.heap.size w W) => (hx.below hb).mono hb.size)
  obtain ⟨a, cap, a2, cap2, rfl⟩ := hx.form
  have HCK := Lib.hid (fun W hb => rCheck_any _ M W (HX.out W hb))
  rw [chk_ok hv] at HCK
  clear hx
  go_enter Try.func70, Try.ntmps70
  go_wp2_with (go_at_call 41; refine (HCK.out _ (by go_grown)).mono ?_; rintro e w1 ⟨rfl, hb⟩; have HB := Lib.hid ((show Below w.heap.size w _ by go_grown).trans (hb.mono (by simp))); clear hb)
  go_ret2
  exact ⟨_, rfl, SetsAt.nil _ _, HB.out⟩
set_option maxRecDepth 100000 in
set_option maxHeartbeats 16000000 in
theorem truths_ok {M : Mach} (hv : validMB M = true) (v : Value) (w : World) (hx : MachAt w.heap.size w v M) : Calls Try.prog 70 #[v, .bool true] w (GaveT (truthsM M) (noneE (truthsM M).length) w) := by
  have hV := validM_iff.1 hv
  have HX := Lib.hid (fun W (hb : Below w.heap.size w W) => (hx.below hb).mono hb.size)
  obtain ⟨a, cap, a2, cap2, rfl⟩ := hx.form
  have HCK := Lib.hid (fun W hb => rCheck_any _ M W (HX.out W hb))
  rw [chk_ok hv] at HCK
  obtain ⟨O, hO⟩ : ∃ O, O = Obj.cells #[.slice a M.levers.length cap, .int .i64 M.water, .int .i64 M.lkLo, .int .i64 M.lkHi, .slice a2 M.bals.length cap2, .int .i64 M.wrong] 27 := ⟨_, rfl⟩
  have HO := Lib.hid hO
  have HW0 := Lib.hid (show MStat w (w.alloc O) w.heap.size O from ⟨(Below.refl _ w).alloc (Nat.le_refl _) _, Nat.le_refl _, heap_new w O⟩)
  have HALL := Lib.hid (fun W (hb : Below w.heap.size w W) => all_any M hV M.levers.length [] (by simp) _ (.slice none 0 0) W (HX.out W hb) (OwnInts.nil _))
  rw [setsFrom_nil] at HALL
  have hsl := sets_len hV
  obtain ⟨c0, c1, c2, c3, c4, c5⟩ := mst_cells HW0.out.blk hO
  obtain ⟨iS, hiS, hy0, hy1, hy2⟩ := info_parts Try_infoSet
  rw [hO] at c0 c1 c2 c3 c4 c5
  clear hx hO
  go_enter Try.func70, Try.ntmps70
  go_upto_region 7 with (go_at_call 41; refine (HCK.out _ (by go_grown)).mono ?_; rintro e w1 ⟨rfl, hb⟩; rw [← HO.out] at hb; have hst1 := HW0.out.next hb; have HST1 := Lib.hid hst1; clear c0 c1 c2 c3 c4 c5; obtain ⟨c0, c1, c2, c3, c4, c5⟩ := mst_cells hst1.blk HO.out; clear hb hst1)
  go_wp2_with (go_at_call 72; refine (HALL.out _ HST1.out.b).mono ?_; rintro e w2 ⟨u, rfl, hsu, hb⟩; have HST2 := Lib.hid (HST1.out.next hb); have HSU := Lib.hid hsu; clear hb hsu c0 c1 c2 c3 c4 c5)
  obtain ⟨A, cl, rfl, _⟩ := own_form HSU.out.choose_spec.2.1
  go_loopw [7, 9] (fun out i wr => ∃ k : Nat, k ≤ (setsM M).length ∧ i = .int .i64 k ∧ Hid (SetsAt wr w2.heap.size out (trTo M k)) ∧ Hid (Below w2.heap.size w2 wr)) (fun _ i _ => (setsM M).length - (intOf i).toNat)
  case atStart => exact ⟨0, Nat.zero_le _, rfl, SetsAt.nil _ _, Below.refl _ _⟩
  case round =>
    obtain ⟨k, hk, rfl, hlists, hbw⟩ := hrel
    have HS := Lib.hid (HST2.out.next hbw.out)
    obtain ⟨c0, c1, c2, c3, c4, c5⟩ := mst_cells HS.out.blk HO.out
    obtain ⟨vs, l1, l2, l3⟩ := hlists.out
    obtain ⟨oA, oc, rfl, _⟩ := own_form l2
    have L1 := Lib.hid l1
    have L2 := Lib.hid l2
    have L3 := Lib.hid l3
    have hln := trTo_len M k
    obtain ⟨ln, hlnn⟩ : ∃ ln, (trTo M k).length = ln := ⟨_, rfl⟩
    obtain ⟨N, hN⟩ : ∃ N, (setsM M).length = N := ⟨_, rfl⟩
    have HN := Lib.hid hN
    have HLN := Lib.hid hlnn
    rw [hlnn, hN] at hln
    rw [hN] at hk hsl
    rw [hlnn] at hlists L2 ⊢
    rw [hN]
    clear l1 l2 l3 hlnn
    by_cases hlt : k < N
    · obtain ⟨g, c, v, e0, hg0, hg1, hga, hgb, hgv⟩ := HSU.out.get (by omega : k < (setsM M).length)
      rw [hN] at e0
      injection e0 with e1 e2 e3
      subst e1 e3
      have hkey := HN.out
      clear hN
      have HGA := Lib.hid hga
      have HGB := Lib.hid hgb
      have hmem := snth_mem (by omega : k < (setsM M).length)
      have HIN := Lib.hid (inSet_of hV hmem)
      have HSN := Lib.hid (trTo_succ (by omega : k < (setsM M).length))
      have HGV := Lib.hid (hgv.below (hbw.out))
      obtain ⟨X, hX⟩ : ∃ X, snth (setsM M) k = X := ⟨_, rfl⟩
      rw [hX] at HGB HIN HSN HGV
      have HWR := Lib.hid (fun W (hb : Below wr.heap.size wr W) => Wrongs_any _ M v X.1 X.2 W (HX.out W (HS.out.b.trans (hb.mono HS.out.b.size))) hV ((HGV.out.below hb).ints (inSet_i64 HIN.out)) HIN.out)
      have HC := Lib.hid (show ∀ W', Below wr.heap.size wr W' → (W'.cell? ⟨w.heap.size, 0, none⟩ = some (.slice a M.levers.length cap) ∧ W'.cell? ⟨w.heap.size, 1, none⟩ = some (.int .i64 M.water) ∧ W'.cell? ⟨w.heap.size, 2, none⟩ = some (.int .i64 M.lkLo) ∧ W'.cell? ⟨w.heap.size, 3, none⟩ = some (.int .i64 M.lkHi) ∧ W'.cell? ⟨w.heap.size, 4, none⟩ = some (.slice a2 M.bals.length cap2) ∧ W'.cell? ⟨w.heap.size, 5, none⟩ = some (.int .i64 M.wrong)) ∧ W'.cell? ⟨g, k * 2, none⟩ = some v ∧ W'.cell? ⟨g, k * 2 + 1, none⟩ = some (.int .i64 X.2) from fun W' hb => ⟨mst_cells (HS.out.next hb).blk HO.out, ((hbw.out.trans (hb.mono hbw.out.size)).cell (p := ⟨g, k * 2, none⟩) hg1).trans HGA.out, ((hbw.out.trans (hb.mono hbw.out.size)).cell (p := ⟨g, k * 2 + 1, none⟩) hg1).trans HGB.out⟩)
      have hkn : ((k : Nat) : Int) < (N : Int) := by omega
      have HLT := Lib.hid hlt
      have hvo := own_one HGV.out
      clear hkey hga hgb hmem hgv hX c0 c1 c2 c3 c4 c5
      obtain ⟨⟨c0, c1, c2, c3, c4, c5⟩, s0, s1⟩ := HC.out wr (Below.refl _ _)
      obtain ⟨q, hq⟩ : ∃ q : Bool, decide (((wrongsP M X.2 (prodL X.1) : Nat) : Int) ≤ M.wrong) = q := ⟨_, rfl⟩
      have hqt : truthB M X.2 (prodL X.1) = q := hq
      rw [hqt] at HSN
      obtain ⟨R, hR⟩ : ∃ R : Int, ((wrongsP M X.2 (prodL X.1) : Nat) : Int) = R := ⟨_, rfl⟩
      rw [hR] at HWR hq
      clear hR hqt
      go_wp2_with fail
      go_region_held3 (fun W' => (W'.cell? ⟨w.heap.size, 0, none⟩ = some (.slice a M.levers.length cap) ∧ W'.cell? ⟨w.heap.size, 1, none⟩ = some (.int .i64 M.water) ∧ W'.cell? ⟨w.heap.size, 2, none⟩ = some (.int .i64 M.lkLo) ∧ W'.cell? ⟨w.heap.size, 3, none⟩ = some (.int .i64 M.lkHi) ∧ W'.cell? ⟨w.heap.size, 4, none⟩ = some (.slice a2 M.bals.length cap2) ∧ W'.cell? ⟨w.heap.size, 5, none⟩ = some (.int .i64 M.wrong)) ∧ W'.cell? ⟨g, k * 2, none⟩ = some v ∧ W'.cell? ⟨g, k * 2 + 1, none⟩ = some (.int .i64 X.2))
        (first
          | exact HC.out _ HB3.out
          | exact HC.out _ (by go_grown))
        (first | (go_at_call 23; refine (HWR.out _ (by go_grown)).mono ?_; rintro e w3 ⟨rfl, hb⟩; have HB3 := Lib.hid ((show Below wr.heap.size wr _ by go_grown).trans (hb.mono (by simp))); clear hb))
      have HBW := Lib.hid (hbw.out.trans (HB3.out.mono hbw.out.size))
      clear c0 c1 c2 c3 c4 c5 s0 s1
      obtain ⟨⟨c0, c1, c2, c3, c4, c5⟩, s0, s1⟩ := HC.out w3 HB3.out
      cases q
      · have e3 := HSN.out
        rw [if_neg (by simp), List.append_nil] at e3
        have HE3 := Lib.hid e3
        have HL3 := Lib.hid (hlists.out.below HB3.out)
        clear e3
        go_wp2
        exact ⟨⟨k + 1, by have := HLT.out; have := HN.out; omega, by go_num, Lib.hid (by rw [HE3.out]; exact HL3.out), HBW⟩, by simp [intOf]; have := HLT.out; omega⟩
      · have e3 := HSN.out
        rw [if_pos rfl] at e3
        have HE3 := Lib.hid e3
        clear e3
        go_wp2_with (at_builtin; refine wpList_onto (base := w2.heap.size) (v := .slice oA ln oc) (n := ln) (xs := setC vs (trTo M k)) (A := some ⟨w3.heap.size, 0, none⟩) (m := 1) (c := 1) (news := [v, .int .i64 X.2]) rfl (.tmp 34) (.tmp 39) rfl Try.underlying101 hiS hy0 hy1 hy2 rfl (by decide) rfl (own_below L2.out (HB3.out.alloc HB3.out.size _)) rfl (from_two _ _ _ _) (by intro u hu; simp only [List.mem_cons, List.not_mem_nil, or_false] at hu; rcases hu with rfl | rfl; exact hvo; rfl) (by unfold maxLen; omega) (by omega) (by have := HBW.out.size; simp; omega) ?_; intro A9 c9 w9 hown9 hgrow9 hat9; have HOWN9 := Lib.hid hown9; have HG9 := Lib.hid hgrow9; clear hown9 hgrow9 hat9)
        have HBA := Lib.hid (HB3.out.alloc HB3.out.size (.cells #[v, .int .i64 X.2] 30))
        have HB9 := Lib.hid ((HBW.out.alloc HBW.out.size (.cells #[v, .int .i64 X.2] 30)).grown HG9.out (by have := HBW.out.size; simp; omega) (fun j e => (L2.out.lt j e).1))
        have HAP := Lib.hid (SetsAt.append (xs := trTo M k) (ys := [X]) (vs' := [v]) L1.out (by rw [HLN.out]; exact own_below L2.out HBA.out) (fun i hi => by obtain ⟨v, h4, h5⟩ := L3.out i hi; exact ⟨v, h4, h5.below HBA.out⟩) rfl (fun i hi => by obtain rfl : i = 0 := (by simpa using hi); exact ⟨_, rfl, HGV.out.below HBA.out⟩) HG9.out (by rw [HLN.out]; exact HOWN9.out))
        exact ⟨⟨k + 1, by have := HLT.out; have := HN.out; omega, by go_num, Lib.hid (by rw [HE3.out]; exact HAP.out), HB9⟩, by simp [intOf]; have := HLT.out; omega⟩
    · obtain rfl : k = N := by omega
      have HTA := trTo_all M
      rw [hN] at HTA
      have HTL := Lib.hid (show (truthsM M).length = ln by rw [← HTA]; exact HLN.out)
      have HL3 := Lib.hid hlists.out
      rw [HTA] at HL3
      have HBZ := Lib.hid (HST2.out.b.trans (hbw.out.mono HST2.out.b.size))
      have hsz := HST2.out.b.size
      by_cases h0 : ln = 0
      · have h0' : ((ln : Int) == 0) = true := by rw [beq_iff_eq]; omega
        have e : truthsM M = [] := List.eq_nil_of_length_eq_zero (HTL.out.trans h0)
        have HE := Lib.hid e
        clear e hN HTA
        go_wp2
        go_ret2
        exact ⟨_, by rw [HE.out]; rfl, by rw [HE.out]; exact SetsAt.nil _ _, HBZ.out⟩
      · have h0' : ((ln : Int) == 0) = false := by rw [beq_eq_false_iff_ne]; omega
        have HE := Lib.hid (show noneE (truthsM M).length = 0 by rw [HTL.out, noneE, if_neg h0])
        clear hN HTA
        go_wp2
        go_ret2
        exact ⟨_, by rw [HE.out]; rfl, HL3.out.lower hsz, HBZ.out⟩
end Go.Proofs.Ytomcjopcfdllgaa
