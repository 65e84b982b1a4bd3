/-
  Levers, walks: how many balances are not right.
-/
import Derived.Test.YtomcjopcfdllgaaVRight

namespace Go.Proofs.Ytomcjopcfdllgaa
open Go.RowKit

/-- How many of the first k balances are not right. -/
def notTo (M : Mach) (leak P : Int) (k : Nat) : Nat := ((M.bals.take k).filter (fun b => !rightP M leak P b)).length
theorem notTo_succ {M : Mach} {leak P : Int} {k : Nat} (h : k < M.bals.length) : notTo M leak P (k + 1) = notTo M leak P k + (if rightP M leak P (bnth M.bals k) = true then 0 else 1) := by
  have e : M.bals.take (k + 1) = M.bals.take k ++ [bnth M.bals k] := by rw [bnth_lt h]; exact List.take_succ_eq_append_getElem h
  rw [notTo, e, List.filter_append, List.length_append, List.filter_cons, List.filter_nil]
  cases hh : rightP M leak P (bnth M.bals k) <;> simp [notTo]
theorem notTo_all (M : Mach) (leak P : Int) : notTo M leak P M.bals.length = wrongsP M leak P := by rw [notTo, List.take_length]; rfl
theorem notTo_le (M : Mach) (leak P : Int) (k : Nat) : notTo M leak P k ≤ M.bals.length := by
  have h1 := List.length_filter_le (fun b => !rightP M leak P b) (M.bals.take k)
  have h2 := List.length_take_le k M.bals
  unfold notTo
  rw [List.length_take] at h1
  omega

set_option maxHeartbeats 4000000 in
theorem notRight_any (M : Mach) (hV : ValidM M) (pb : Nat) (a0 a1 a2 leak : Int) (bv : Value) (w : World) (hb : pb < w.heap.size) (hl : 0 ≤ leak ∧ leak ≤ 20) (h0 : 1 ≤ a0 ∧ a0 ≤ 1000) (h1 : 1 ≤ a1 ∧ a1 ≤ 1000) (h2 : 1 ≤ a2 ∧ a2 ≤ 1000)
    (c1 : w.cell? ⟨pb, 1, none⟩ = some (.int .i64 M.water)) (c4 : w.cell? ⟨pb, 4, none⟩ = some bv) (c12 : w.cell? ⟨pb, 12, none⟩ = some (.int .i64 (longP M.levers))) (hB : BalsAt w.heap.size w bv M.bals) :
    Calls Try.prog 69 #[.pointer (some ⟨pb, 0, none⟩), .agg #[.int .i64 a0, .int .i64 a1, .int .i64 a2, .int .i64 leak]] w fun e w' => e = .returned (.int .i64 (wrongsP M leak (a0 * a1 * a2) : Nat)) ∧ Below w.heap.size w w' := by
  obtain ⟨P, hP⟩ : ∃ P, a0 * a1 * a2 = P := ⟨_, rfl⟩
  have HR := Lib.hid (fun (W : World) (x : Bal) (hx : x ∈ M.bals) (hW : Below w.heap.size w W) => visRight_any M hV pb a0 a1 a2 leak x W (by have := hW.size; omega) hx hl h0 h1 h2 ((hW.cell hb).trans c1) ((hW.cell hb).trans c12))
  rw [hP] at HR ⊢
  obtain ⟨a, cap, bb, off, rfl, hlen, hcap, hA, hC, hI⟩ := hB
  have hn6 := hV.nb
  have HA := Lib.hid hA
  have HC := Lib.hid hC
  have HALL := Lib.hid (notTo_all M leak P)
  have HLE := Lib.hid (notTo_le M leak P)
  have HBX := Lib.hid (fun k (h : k < M.bals.length) => show bnth M.bals k ∈ M.bals from by rw [bnth_lt h]; exact List.getElem_mem h)
  have HC4 := Lib.hid c4
  clear hA hC hI h0 h1 h2 c1 c12 hP hlen hcap
  go_enter Try.func69, Try.ntmps69
  go_wp2
  go_loopw [5, 14] (fun oc oi wr => ∃ k : Nat, k ≤ M.bals.length ∧ oi = .int .i64 k ∧ oc = .int .i64 (notTo M leak P k : Nat) ∧ Hid (Below (w.heap.size + 1) (w.alloc (.cells #[.int .i64 a0, .int .i64 a1, .int .i64 a2, .int .i64 leak] 83)) wr)) (fun _ i _ => M.bals.length - (intOf i).toNat)
  case atStart => exact ⟨0, Nat.zero_le _, rfl, rfl, Below.refl _ _⟩
  case round =>
    obtain ⟨k, hk, rfl, rfl, hbl⟩ := hrel
    have hk0 : (0 : Int) ≤ (k : Nat) := by omega
    have hbw : Below w.heap.size w wr := boxed hbl.out
    have hsz := boxed_size hbl.out
    have HBW := Lib.hid hbw
    have hle := HLE.out k
    by_cases hlt : k < M.bals.length
    · have hlt' : ((k : Nat) : Int) < (M.bals.length : Int) := by omega
      obtain ⟨rfl, hbb⟩ := HA.out (by omega)
      obtain ⟨d0, d1, d2, d3⟩ := (HC.out k hlt).below hbw hbb
      have hsb := (hbl.out.block w.heap.size (by omega)).trans (heap_new w _)
      obtain ⟨s0, s1, s2, s3⟩ := cells4 ((Below.heap_alloc wr (.cells #[.int .i64 (bnth M.bals k).weight, .int .i64 (bnth M.bals k).minutes, .int .i64 (bnth M.bals k).load, .int .i64 (bnth M.bals k).off] 51) _ (show w.heap.size < wr.heap.size by omega)).trans hsb)
      have hst := notTo_succ (M := M) (leak := leak) (P := P) hlt
      have HST := Lib.hid hst
      clear hst hbw hsb
      cases hr : rightP M leak P (bnth M.bals k)
      · have HRR := Lib.hid hr
        clear hr
        go_wp2_with (go_at_call 67; refine (HR.out _ _ (HBX.out k hlt) (HBW.out.trans (by go_grown))).mono ?_; rintro e w' ⟨rfl, hb2⟩; rw [HRR.out]; have HFIN := Lib.hid (hbl.out.trans ((show Below (w.heap.size + 1) wr _ by go_grown).trans (hb2.mono (by simp; omega)))); clear hb2)
        have hs1 : notTo M leak P (k + 1) = notTo M leak P k + 1 := by rw [HST.out, HRR.out]; rfl
        exact ⟨⟨k + 1, by omega, by go_num, by rw [hs1]; go_num, HFIN.out⟩, by simp [intOf]; omega⟩
      · have HRR := Lib.hid hr
        clear hr
        go_wp2_with (go_at_call 67; refine (HR.out _ _ (HBX.out k hlt) (HBW.out.trans (by go_grown))).mono ?_; rintro e w' ⟨rfl, hb2⟩; rw [HRR.out]; have HFIN := Lib.hid (hbl.out.trans ((show Below (w.heap.size + 1) wr _ by go_grown).trans (hb2.mono (by simp; omega)))); clear hb2)
        have hs1 : notTo M leak P (k + 1) = notTo M leak P k := by rw [HST.out, HRR.out]; rfl
        exact ⟨⟨k + 1, by omega, by go_num, by rw [hs1], HFIN.out⟩, by simp [intOf]; omega⟩
    · obtain rfl : M.bals.length = k := by omega
      go_wp2
      go_ret
      exact ⟨ret_int (by rw [← HALL.out]), HBW.out⟩
end Go.Proofs.Ytomcjopcfdllgaa
