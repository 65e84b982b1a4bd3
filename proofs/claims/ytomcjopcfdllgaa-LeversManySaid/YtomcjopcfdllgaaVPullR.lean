/-
  Levers, the law's reference: in how many truths a load is pulled.
-/
import Derived.Test.YtomcjopcfdllgaaVEnoughM

namespace Go.Proofs.Ytomcjopcfdllgaa
open Go.RowKit Go.Shelf

/-- In how many of the first truths a load is pulled. -/
def pulledTo (M : Mach) (weight minutes load : Int) (k : Nat) : Nat := (((truthsM M).take k).filter (fun s => pullsB M weight minutes load s.2 (prodL s.1))).length
theorem pulledTo_succ {M : Mach} {weight minutes load : Int} {k : Nat} (h : k < (truthsM M).length) :
    pulledTo M weight minutes load (k + 1) = pulledTo M weight minutes load k + (if pullsB M weight minutes load (snth (truthsM M) k).2 (prodL (snth (truthsM M) k).1) = true then 1 else 0) := by
  rw [pulledTo, List.take_succ_eq_append_getElem h, List.filter_append, ← snth_lt h, List.length_append]
  congr 1
  simp only [List.filter_cons, List.filter_nil]
  split <;> rfl
theorem pulledTo_all (M : Mach) (weight minutes load : Int) : pulledTo M weight minutes load (truthsM M).length = pulledN M weight minutes load := by rw [pulledTo, List.take_length, pulledN]
theorem pulledTo_le (M : Mach) (weight minutes load : Int) (k : Nat) : pulledTo M weight minutes load k ≤ k := Nat.le_trans (List.length_filter_le _ _) (by rw [List.length_take]; omega)
theorem truths_len {M : Mach} (hV : ValidM M) : (truthsM M).length ≤ 21000000000 := by
  rw [truths_are]
  exact Nat.le_trans (List.length_filter_le _ _) (sets_len hV)
theorem truth_set {M : Mach} {s : List Int × Int} (hs : s ∈ truthsM M) : s ∈ setsM M := by
  rw [truths_are] at hs
  exact (List.mem_filter.1 hs).1
set_option maxRecDepth 100000 in
set_option maxHeartbeats 8000000 in
theorem pulled_any {M : Mach} (hV : ValidM M) {weight minutes load : Int} (hwt : 0 ≤ weight ∧ weight ≤ 9999) (hmn : 0 ≤ minutes ∧ minutes ≤ 99) (hld : 0 ≤ load ∧ load ≤ 999999999) (v u : Value) {B : Nat} (w : World) (hx : MachAt w.heap.size w v M) (hu : SetsAt w B u (truthsM M)) :
    Calls Try.prog 75 #[v, u, .int .i64 weight, .int .i64 minutes, .int .i64 load] w fun e w' => e = .returned (.int .i64 (pulledN M weight minutes load)) ∧ Below w.heap.size w w' := by
  have HX := Lib.hid (fun W (hb : Below w.heap.size w W) => (hx.below hb).mono hb.size)
  obtain ⟨a, cap, a2, cap2, rfl⟩ := hx.form
  obtain ⟨O, hO⟩ : ∃ O, O = Obj.cells #[.slice a M.levers.length cap, .int .i64 M.water, .int .i64 M.lkLo, .int .i64 M.lkHi, .slice a2 M.bals.length cap2, .int .i64 M.wrong] 27 := ⟨_, rfl⟩
  have HO := Lib.hid hO
  have HW0 := Lib.hid (show MStat w (w.alloc O) w.heap.size O from ⟨(Below.refl _ w).alloc (Nat.le_refl _) _, Nat.le_refl _, heap_new w O⟩)
  have hsl := truths_len hV
  obtain ⟨c0, c1, c2, c3, c4, c5⟩ := mst_cells HW0.out.blk hO
  have HSU := Lib.hid hu
  obtain ⟨A, cl, rfl, _⟩ := own_form hu.choose_spec.2.1
  rw [hO] at c0 c1 c2 c3 c4 c5
  clear hx hO hu
  go_enter Try.func75, Try.ntmps75
  go_wp2_with fail
  rw [← HO.out]
  clear c0 c1 c2 c3 c4 c5
  go_loopw [11, 12] (fun n i wr => ∃ k : Nat, k ≤ (truthsM M).length ∧ i = .int .i64 k ∧ n = .int .i64 (pulledTo M weight minutes load k : Nat) ∧ Hid (MStat w wr w.heap.size O)) (fun _ i _ => (truthsM M).length - (intOf i).toNat)
  case atStart => exact ⟨0, Nat.zero_le _, rfl, rfl, HW0⟩
  case round =>
    obtain ⟨k, hk, rfl, rfl, hst⟩ := hrel
    obtain ⟨c0, c1, c2, c3, c4, c5⟩ := mst_cells hst.out.blk HO.out
    have hpl := pulledTo_le M weight minutes load k
    obtain ⟨N, hN⟩ : ∃ N, (truthsM M).length = N := ⟨_, rfl⟩
    have HN := Lib.hid hN
    obtain ⟨R, hR⟩ : ∃ R, pulledTo M weight minutes load k = R := ⟨_, rfl⟩
    have HR := Lib.hid hR
    rw [hR] at hpl ⊢
    rw [hN] at hk hsl ⊢
    by_cases hlt : k < N
    · obtain ⟨g, c, v, e0, hg0, hg1, hga, hgb, hgv⟩ := HSU.out.get (by omega : k < (truthsM M).length)
      rw [hN] at e0
      injection e0 with e1 e2 e3
      subst e1 e3
      clear hN
      have HGA := Lib.hid hga
      have HGB := Lib.hid hgb
      have hmem := snth_mem (show k < (truthsM M).length by have := HN.out; omega)
      have HIN := Lib.hid (inSet_of hV (truth_set hmem))
      have HSN := Lib.hid (pulledTo_succ (weight := weight) (minutes := minutes) (load := load) (show k < (truthsM M).length by have := HN.out; omega))
      have HGV := Lib.hid (hgv.below hst.out.b)
      obtain ⟨X, hX⟩ : ∃ X, snth (truthsM M) k = X := ⟨_, rfl⟩
      rw [hX] at HGB HIN HSN HGV
      obtain ⟨q, hq⟩ : ∃ q, pullsB M weight minutes load X.2 (prodL X.1) = q := ⟨_, rfl⟩
      have HWR := Lib.hid (fun W (hb : Below wr.heap.size wr W) => IsPulled_any _ M v X.1 X.2 weight minutes load W (HX.out W (hst.out.b.trans (hb.mono hst.out.b.size))) hV ((HGV.out.below hb).ints (inSet_i64 HIN.out)) HIN.out hwt hmn hld)
      rw [hq] at HWR HSN
      rw [HR.out] at HSN
      have HC := Lib.hid (show ∀ W', Below wr.heap.size wr W' → ((W'.cell? ⟨w.heap.size, 0, none⟩ = some (.slice a M.levers.length cap) ∧ W'.cell? ⟨w.heap.size, 1, none⟩ = some (.int .i64 M.water) ∧ W'.cell? ⟨w.heap.size, 2, none⟩ = some (.int .i64 M.lkLo) ∧ W'.cell? ⟨w.heap.size, 3, none⟩ = some (.int .i64 M.lkHi) ∧ W'.cell? ⟨w.heap.size, 4, none⟩ = some (.slice a2 M.bals.length cap2) ∧ W'.cell? ⟨w.heap.size, 5, none⟩ = some (.int .i64 M.wrong)) ∧ W'.cell? ⟨g, k * 2, none⟩ = some v ∧ W'.cell? ⟨g, k * 2 + 1, none⟩ = some (.int .i64 X.2)) from fun W' hb => ⟨mst_cells (hst.out.next hb).blk HO.out, ((hst.out.b.trans (hb.mono hst.out.b.size)).cell (p := ⟨g, k * 2, none⟩) hg1).trans HGA.out, ((hst.out.b.trans (hb.mono hst.out.b.size)).cell (p := ⟨g, k * 2 + 1, none⟩) hg1).trans HGB.out⟩)
      have hkn : ((k : Nat) : Int) < (N : Int) := by omega
      have HLT := Lib.hid hlt
      clear hga hgb hmem hgv hX c0 c1 c2 c3 c4 c5 hq hR
      obtain ⟨⟨c0, c1, c2, c3, c4, c5⟩, s0, s1⟩ := HC.out wr (Below.refl _ _)
      go_wp2_with fail
      go_region_held3 (fun W' => (W'.cell? ⟨w.heap.size, 0, none⟩ = some (.slice a M.levers.length cap) ∧ W'.cell? ⟨w.heap.size, 1, none⟩ = some (.int .i64 M.water) ∧ W'.cell? ⟨w.heap.size, 2, none⟩ = some (.int .i64 M.lkLo) ∧ W'.cell? ⟨w.heap.size, 3, none⟩ = some (.int .i64 M.lkHi) ∧ W'.cell? ⟨w.heap.size, 4, none⟩ = some (.slice a2 M.bals.length cap2) ∧ W'.cell? ⟨w.heap.size, 5, none⟩ = some (.int .i64 M.wrong)) ∧ W'.cell? ⟨g, k * 2, none⟩ = some v ∧ W'.cell? ⟨g, k * 2 + 1, none⟩ = some (.int .i64 X.2))
        (first
          | exact HC.out _ HB3.out
          | exact HC.out _ (by go_grown))
        (first | (go_at_call 27; refine (HWR.out _ (by go_grown)).mono ?_; rintro e w3 ⟨rfl, hb⟩; have HB3 := Lib.hid ((show Below wr.heap.size wr _ by go_grown).trans (hb.mono (by simp))); clear hb))
      have HS3 := Lib.hid (hst.out.next HB3.out)
      clear c0 c1 c2 c3 c4 c5 s0 s1
      obtain ⟨⟨c0, c1, c2, c3, c4, c5⟩, s0, s1⟩ := HC.out w3 HB3.out
      cases q
      · have HE := Lib.hid (HSN.out.trans (by rw [if_neg (by simp), Nat.add_zero]))
        go_wp2
        exact ⟨⟨k + 1, by have := HLT.out; have := HN.out; omega, by go_num, by rw [HE.out], HS3⟩, by simp [intOf]; have := HLT.out; omega⟩
      · have HE := Lib.hid (HSN.out.trans (by rw [if_pos rfl]))
        go_wp2
        exact ⟨⟨k + 1, by have := HLT.out; have := HN.out; omega, by go_num, by rw [HE.out]; go_num, HS3⟩, by simp [intOf]; have := HLT.out; omega⟩
    · obtain rfl : k = N := by omega
      have HPA := Lib.hid (pulledTo_all M weight minutes load)
      rw [HN.out, HR.out] at HPA
      clear hN hR
      go_wp2
      go_ret
      exact ⟨by rw [← HPA.out]; rfl, hst.out.b⟩
end Go.Proofs.Ytomcjopcfdllgaa
