/-
  Levers, the law's reference: Fewest and Many.
-/
import Derived.Test.YtomcjopcfdllgaaVTruthsR
import Derived.Test.YtomcjopcfdllgaaVFew

namespace Go.Proofs.Ytomcjopcfdllgaa
open Go.RowKit Go.Shelf

set_option maxRecDepth 100000 in
set_option maxHeartbeats 4000000 in
theorem rFewest_er {M : Mach} (hv : validMB M = false) (v : Value) (w : World) (hx : MachAt w.heap.size w v M) : Calls Try.prog 42 #[v] w fun e w' => e = .returned (.tuple #[.int .i64 0, .int .i64 30]) ∧ Below w.heap.size w w' := by
  have HX := Lib.hid (fun W (hb : Below w.heap.size w W) => (hx.below hb).mono hb.size)
  obtain ⟨a, cap, a2, cap2, rfl⟩ := hx.form
  have HCK := Lib.hid (fun W hb => rCheck_any _ M W (HX.out W hb))
  rw [chk_bad hv] at HCK
  clear hx
  go_enter Try.func42, Try.ntmps42
  go_wp2_with (go_at_call 41; refine (HCK.out _ (by go_grown)).mono ?_; rintro e w1 ⟨rfl, hb⟩; have HB := Lib.hid ((show Below w.heap.size w _ by go_grown).trans (hb.mono (by simp))); clear hb)
  go_ret2
  exact ⟨rfl, HB.out⟩
/-- The fewest of the first settings. -/
def fewTo (M : Mach) (k : Nat) : Nat := (((setsM M).take k).map (fun s => wrongsP M s.2 (prodL s.1))).foldl min M.bals.length
theorem fewTo_succ {M : Mach} {k : Nat} (h : k < (setsM M).length) : fewTo M (k + 1) = min (fewTo M k) (wrongsP M (snth (setsM M) k).2 (prodL (snth (setsM M) k).1)) := by
  rw [fewTo, List.take_succ_eq_append_getElem h, List.map_append, List.foldl_append, snth_lt h]
  rfl
theorem fewTo_all (M : Mach) : fewTo M (setsM M).length = fewestM M := by rw [fewTo, List.take_length]; rfl
set_option maxRecDepth 100000 in
set_option maxHeartbeats 16000000 in
theorem rFewest_ok {M : Mach} (hv : validMB M = true) (v : Value) (w : World) (hx : MachAt w.heap.size w v M) : Calls Try.prog 42 #[v] w fun e w' => e = .returned (.tuple #[.int .i64 (fewestM M : Nat), .int .i64 0]) ∧ Below w.heap.size w w' := by
  have hV := validM_iff.1 hv
  have HX := Lib.hid (fun W (hb : Below w.heap.size w W) => (hx.below hb).mono hb.size)
  obtain ⟨a, cap, a2, cap2, rfl⟩ := hx.form
  have HCK := Lib.hid (fun W hb => rCheck_any _ M W (HX.out W hb))
  rw [chk_ok hv] at HCK
  obtain ⟨O, hO⟩ : ∃ O, O = Obj.cells #[.slice a M.levers.length cap, .int .i64 M.water, .int .i64 M.lkLo, .int .i64 M.lkHi, .slice a2 M.bals.length cap2, .int .i64 M.wrong] 27 := ⟨_, rfl⟩
  have HO := Lib.hid hO
  have HW0 := Lib.hid (show MStat w (w.alloc O) w.heap.size O from ⟨(Below.refl _ w).alloc (Nat.le_refl _) _, Nat.le_refl _, heap_new w O⟩)
  have HALL := Lib.hid (fun W (hb : Below w.heap.size w W) => all_any M hV M.levers.length [] (by simp) _ (.slice none 0 0) W (HX.out W hb) (OwnInts.nil _))
  rw [setsFrom_nil] at HALL
  have hsl := sets_len hV
  obtain ⟨c0, c1, c2, c3, c4, c5⟩ := mst_cells HW0.out.blk hO
  rw [hO] at c0 c1 c2 c3 c4 c5
  clear hx hO
  go_enter Try.func42, Try.ntmps42
  go_upto_region 5 with (go_at_call 41; refine (HCK.out _ (by go_grown)).mono ?_; rintro e w1 ⟨rfl, hb⟩; rw [← HO.out] at hb; have hst1 := HW0.out.next hb; have HST1 := Lib.hid hst1; clear c0 c1 c2 c3 c4 c5; obtain ⟨c0, c1, c2, c3, c4, c5⟩ := mst_cells hst1.blk HO.out; clear hb hst1)
  go_wp2_with (go_at_call 72; refine (HALL.out _ HST1.out.b).mono ?_; rintro e w2 ⟨u, rfl, hsu, hb⟩; have HST2 := Lib.hid (HST1.out.next hb); have HSU := Lib.hid hsu; clear hb hsu c0 c1 c2 c3 c4 c5)
  obtain ⟨A, cl, rfl, _⟩ := own_form HSU.out.choose_spec.2.1
  go_loopw [5, 7] (fun n i wr => ∃ k : Nat, k ≤ (setsM M).length ∧ i = .int .i64 k ∧ n = .int .i64 (fewTo M k : Nat) ∧ Hid (Below w2.heap.size w2 wr)) (fun _ i _ => (setsM M).length - (intOf i).toNat)
  case atStart => exact ⟨0, Nat.zero_le _, rfl, rfl, Lib.hid (Below.refl _ _)⟩
  case round =>
    obtain ⟨k, hk, rfl, rfl, hbw⟩ := hrel
    have HS := Lib.hid (HST2.out.next hbw.out)
    obtain ⟨c0, c1, c2, c3, c4, c5⟩ := mst_cells HS.out.blk HO.out
    obtain ⟨N, hN⟩ : ∃ N, (setsM M).length = N := ⟨_, rfl⟩
    have HN := Lib.hid hN
    obtain ⟨R, hR⟩ : ∃ R, fewTo M k = R := ⟨_, rfl⟩
    have HR := Lib.hid hR
    rw [hN] at hk hsl
    rw [hN, hR]
    by_cases hlt : k < N
    · obtain ⟨g, c, v, e0, hg0, hg1, hga, hgb, hgv⟩ := HSU.out.get (show k < (setsM M).length by omega)
      rw [hN] at e0
      injection e0 with e1 e2 e3
      subst e1 e3
      clear hN hR
      have HGA := Lib.hid hga
      have HGB := Lib.hid hgb
      have hmem := snth_mem (show k < (setsM M).length by have := HN.out; omega)
      have HIN := Lib.hid (inSet_of hV hmem)
      have HSN := Lib.hid (fewTo_succ (show k < (setsM M).length by have := HN.out; omega))
      have HGV := Lib.hid (hgv.below hbw.out)
      obtain ⟨X, hX⟩ : ∃ X, snth (setsM M) k = X := ⟨_, rfl⟩
      rw [hX] at HGB HIN HSN HGV
      have HWR := Lib.hid (fun W (hb : Below wr.heap.size wr W) => Wrongs_any _ M v X.1 X.2 W (HX.out W (HS.out.b.trans (hb.mono HS.out.b.size))) hV ((HGV.out.below hb).ints (inSet_i64 HIN.out)) HIN.out)
      obtain ⟨Q, hQ⟩ : ∃ Q, wrongsP M X.2 (prodL X.1) = Q := ⟨_, rfl⟩
      rw [hQ] at HWR HSN
      rw [HR.out] at HSN
      have HC := Lib.hid (show ∀ W', Below wr.heap.size wr W' → ((W'.cell? ⟨w.heap.size, 0, none⟩ = some (.slice a M.levers.length cap) ∧ W'.cell? ⟨w.heap.size, 1, none⟩ = some (.int .i64 M.water) ∧ W'.cell? ⟨w.heap.size, 2, none⟩ = some (.int .i64 M.lkLo) ∧ W'.cell? ⟨w.heap.size, 3, none⟩ = some (.int .i64 M.lkHi) ∧ W'.cell? ⟨w.heap.size, 4, none⟩ = some (.slice a2 M.bals.length cap2) ∧ W'.cell? ⟨w.heap.size, 5, none⟩ = some (.int .i64 M.wrong)) ∧ W'.cell? ⟨g, k * 2, none⟩ = some v ∧ W'.cell? ⟨g, k * 2 + 1, none⟩ = some (.int .i64 X.2)) from fun W' hb => ⟨mst_cells (HS.out.next hb).blk HO.out, ((hbw.out.trans (hb.mono hbw.out.size)).cell (p := ⟨g, k * 2, none⟩) hg1).trans HGA.out, ((hbw.out.trans (hb.mono hbw.out.size)).cell (p := ⟨g, k * 2 + 1, none⟩) hg1).trans HGB.out⟩)
      have hkn : ((k : Nat) : Int) < (N : Int) := by omega
      have HLT := Lib.hid hlt
      obtain ⟨Z, hZ⟩ : ∃ Z : Int, min (R : Int) (Q : Int) = Z := ⟨_, rfl⟩
      have HZ := Lib.hid (show ((fewTo M (k + 1) : Nat) : Int) = Z by rw [HSN.out, ← min_cast, hZ])
      clear hga hgb hmem hgv hX c0 c1 c2 c3 c4 c5 hQ
      obtain ⟨⟨c0, c1, c2, c3, c4, c5⟩, s0, s1⟩ := HC.out wr (Below.refl _ _)
      go_wp2_with fail
      go_region_held3 (fun W' => (W'.cell? ⟨w.heap.size, 0, none⟩ = some (.slice a M.levers.length cap) ∧ W'.cell? ⟨w.heap.size, 1, none⟩ = some (.int .i64 M.water) ∧ W'.cell? ⟨w.heap.size, 2, none⟩ = some (.int .i64 M.lkLo) ∧ W'.cell? ⟨w.heap.size, 3, none⟩ = some (.int .i64 M.lkHi) ∧ W'.cell? ⟨w.heap.size, 4, none⟩ = some (.slice a2 M.bals.length cap2) ∧ W'.cell? ⟨w.heap.size, 5, none⟩ = some (.int .i64 M.wrong)) ∧ W'.cell? ⟨g, k * 2, none⟩ = some v ∧ W'.cell? ⟨g, k * 2 + 1, none⟩ = some (.int .i64 X.2))
        (first
          | exact HC.out _ HB3.out
          | exact HC.out _ (by go_grown))
        (first | (go_at_call 23; refine (HWR.out _ (by go_grown)).mono ?_; rintro e w3 ⟨rfl, hb⟩; have HB3 := Lib.hid ((show Below wr.heap.size wr _ by go_grown).trans (hb.mono (by simp))); clear hb))
      all_goals
        have HBW := Lib.hid (hbw.out.trans (HB3.out.mono hbw.out.size))
        go_wp2
        exact ⟨⟨k + 1, by have := HLT.out; have := HN.out; omega, by go_num, by rw [HZ.out], HBW⟩, by simp [intOf]; have := HLT.out; omega⟩
    · obtain rfl : k = N := by omega
      have HTA := Lib.hid (fewTo_all M)
      rw [HN.out, HR.out] at HTA
      have HBZ := Lib.hid (HST2.out.b.trans (hbw.out.mono HST2.out.b.size))
      clear hN hR
      go_wp2
      go_ret2
      exact ⟨by rw [← HTA.out]; rfl, HBZ.out⟩
theorem rMany_gen {M : Mach} {er : Int} {xs : List (List Int × Int)} (v : Value) (w : World) (hx : MachAt w.heap.size w v M)
    (ht : ∀ W, Below w.heap.size w W → Calls Try.prog 70 #[v, .bool true] W (GaveT xs er W)) :
    Calls Try.prog 43 #[v] w fun e w' => e = .returned (.tuple #[.int .i64 xs.length, .int .i64 er]) ∧ Below w.heap.size w w' := by
  obtain ⟨a, cap, a2, cap2, rfl⟩ := hx.form
  have HT := Lib.hid ht
  clear hx ht
  go_enter Try.func43, Try.ntmps43
  go_wp2_with (go_at_call 70; refine (HT.out _ (by go_grown)).mono ?_; rintro e w1 ⟨u, rfl, hsu, hb⟩; have HB := Lib.hid ((show Below w.heap.size w _ by go_grown).trans (hb.mono (by simp))); obtain ⟨A, cl, rfl, _⟩ := own_form hsu.choose_spec.2.1; clear hb hsu)
  go_ret2
  exact ⟨rfl, HB.out⟩
end Go.Proofs.Ytomcjopcfdllgaa
