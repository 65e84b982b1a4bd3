/-
  Levers, the reference: within, what can be asked, whether a machine is valid.
  Levers, the reference: Check.
  Levers, the law's own functions: Far, ready, isAsk, sane, isKnown.
-/
import Derived.Test.YtomcjopcfdllgaaVWorks
import Derived.BigQuiet
import Derived.Test.YtomcjopcfdllgaaVFactsK

namespace Go.Proofs.Ytomcjopcfdllgaa
open Go.RowKit Go.Shelf

set_option maxHeartbeats 400000 in
theorem rWithin_any (n lo hi : Int) (w : World) :
    Calls Try.prog 31 #[.int .i64 n, .int .i64 lo, .int .i64 hi] w fun e w' => e = .returned (.bool (wB n lo hi)) ∧ w = w' := by
  cases h : wB n lo hi
  · by_cases h0 : lo ≤ n
    · have h1 : ¬ n ≤ hi := by rcases wB_false.1 h with h1 | h1 <;> omega
      clear h
      go_enter Try.func31, Try.ntmps31
      go_wp2
      go_ret
      exact ⟨ret_bool (by first | (simp; done) | (simp; omega)), rfl⟩
    · clear h
      go_enter Try.func31, Try.ntmps31
      go_wp2
      go_ret
      exact ⟨ret_bool (by first | (simp; done) | (simp; omega)), rfl⟩
  · obtain ⟨h1, h2⟩ := wB_iff.1 h
    clear h
    go_enter Try.func31, Try.ntmps31
    go_wp2
    go_ret
    exact ⟨ret_bool (by first | (simp; done) | (simp; omega)), rfl⟩
theorem uwithin_any (n lo hi : Int) (w : World) :
    Calls Try.prog 53 #[.int .i64 n, .int .i64 lo, .int .i64 hi] w fun e w' => e = .returned (.bool (wB n lo hi)) ∧ w = w' := by
  go_enter Try.func53, Try.ntmps53
  go_wp2_with (go_at_call 31; refine (rWithin_any n lo hi _).mono ?_; rintro e w' ⟨rfl, rfl⟩)
  go_ret
  exact ⟨rfl, rfl⟩
theorem uwithin_to {n lo hi : Int} {b : Bool} (h : wB n lo hi = b) (w : World) :
    Calls Try.prog 53 #[.int .i64 n, .int .i64 lo, .int .i64 hi] w fun e w' => e = .returned (.bool b) ∧ w = w' := h ▸ uwithin_any n lo hi w
/-- What can be asked. -/
def ask3 (x y z : Int) : Bool := wB x 0 9999 && wB y 0 99 && wB z 0 999999999
set_option maxRecDepth 100000 in
set_option maxHeartbeats 1000000 in
theorem IsAsk_any (x y z : Int) (w : World) :
    Calls Try.prog 33 #[.int .i64 x, .int .i64 y, .int .i64 z] w fun e w' => e = .returned (.bool (ask3 x y z)) ∧ w = w' := by
  cases h1 : wB x 0 9999
  · go_enter Try.func33, Try.ntmps33
    go_wp2_with (go_at_call 53; refine (uwithin_any _ _ _ _).mono ?_; rintro e w' ⟨rfl, rfl⟩; first | rw [h1])
    go_ret
    exact ⟨ret_bool (by simp [ask3, h1]), rfl⟩
  cases h2 : wB y 0 99
  · go_enter Try.func33, Try.ntmps33
    go_wp2_with (go_at_call 53; refine (uwithin_any _ _ _ _).mono ?_; rintro e w' ⟨rfl, rfl⟩; first | rw [h1] | rw [h2])
    go_ret
    exact ⟨ret_bool (by simp [ask3, h1, h2]), rfl⟩
  cases h3 : wB z 0 999999999
  all_goals
    go_enter Try.func33, Try.ntmps33
    go_wp2_with (go_at_call 53; refine (uwithin_any _ _ _ _).mono ?_; rintro e w' ⟨rfl, rfl⟩; first | rw [h1] | rw [h2] | rw [h3])
    go_ret
    exact ⟨ret_bool (by simp [ask3, h1, h2, h3]), rfl⟩
end Go.Proofs.Ytomcjopcfdllgaa

namespace Go.Proofs.Ytomcjopcfdllgaa
open Go.RowKit Go.Shelf

theorem wB_no {n lo hi : Int} (h : wB n lo hi = false) : ¬ (lo ≤ n ∧ n ≤ hi) := by rcases wB_false.1 h with h | h <;> omega
theorem notV {M : Mach} (h : ¬ ValidM M) : chkM M = 30 := chk_bad (Bool.eq_false_iff.2 (fun h' => h (validM_iff.1 h')))

set_option maxRecDepth 100000 in
set_option maxHeartbeats 8000000 in
theorem rCheck_any (v : Value) (M : Mach) (w : World) (hx : MachAt w.heap.size w v M) :
    Calls Try.prog 41 #[v] w fun e w' => e = .returned (.int .i64 (chkM M)) ∧ Below w.heap.size w w' := by
  obtain ⟨a, cap, b, off, a2, cap2, b2, off2, rfl, hm, hm2, HA, HC, HA2, HC2, HI, HI2, HW⟩ := hx.opened
  clear hx
  obtain ⟨i1, i2, i3, i4⟩ := HW.out
  unfold I64 at i1 i2 i3 i4
  obtain ⟨RV, hRV⟩ : ∃ r, chkM M = r := ⟨_, rfl⟩
  have HNV := Lib.hid (fun (h : ¬ ValidM M) => hRV.symm.trans (notV h))
  rw [hRV]
  have HRV := Lib.hid hRV
  clear hRV
  by_cases hn1 : M.levers.length ≤ 3
  case neg =>
    have HF := Lib.hid (HNV.out (fun hv => hn1 hv.nl))
    have hn1' : (3 : Int) < (M.levers.length : Int) := by omega
    go_enter Try.func41, Try.ntmps41
    go_wp2_with fail
    go_ret
    exact ⟨ret_int HF.out.symm, by go_grown⟩
  have hn1' : ¬ (3 : Int) < (M.levers.length : Int) := by omega
  cases h1 : wB M.water 0 9999
  case false =>
    have HF := Lib.hid (HNV.out (fun hv => wB_no h1 hv.water))
    go_enter Try.func41, Try.ntmps41
    go_wp2_with (go_at_call 53; refine (uwithin_any _ _ _ _).mono ?_; rintro e w' ⟨rfl, rfl⟩; first | rw [h1])
    go_ret
    exact ⟨ret_int HF.out.symm, by go_grown⟩
  cases h2 : wB M.lkLo 0 M.lkHi
  case false =>
    have HF := Lib.hid (HNV.out (fun hv => wB_no h2 ⟨hv.leak.1, hv.leak.2.1⟩))
    go_enter Try.func41, Try.ntmps41
    go_wp2_with (go_at_call 53; refine (uwithin_any _ _ _ _).mono ?_; rintro e w' ⟨rfl, rfl⟩; first | rw [h1] | rw [h2])
    go_ret
    exact ⟨ret_int HF.out.symm, by go_grown⟩
  by_cases h3 : M.lkHi ≤ 20
  case neg =>
    have HF := Lib.hid (HNV.out (fun hv => h3 hv.leak.2.2))
    have h3' : (20 : Int) < M.lkHi := by omega
    go_enter Try.func41, Try.ntmps41
    go_wp2_with (go_at_call 53; refine (uwithin_any _ _ _ _).mono ?_; rintro e w' ⟨rfl, rfl⟩; first | rw [h1] | rw [h2])
    go_ret
    exact ⟨ret_int HF.out.symm, by go_grown⟩
  have h3' : ¬ (20 : Int) < M.lkHi := by omega
  by_cases hn2 : M.bals.length ≤ 6
  case neg =>
    have HF := Lib.hid (HNV.out (fun hv => hn2 hv.nb))
    have hn2' : (6 : Int) < (M.bals.length : Int) := by omega
    go_enter Try.func41, Try.ntmps41
    go_wp2_with (go_at_call 53; refine (uwithin_any _ _ _ _).mono ?_; rintro e w' ⟨rfl, rfl⟩; first | rw [h1] | rw [h2])
    go_ret
    exact ⟨ret_int HF.out.symm, by go_grown⟩
  have hn2' : ¬ (6 : Int) < (M.bals.length : Int) := by omega
  cases h4 : wB M.wrong 0 6
  case false =>
    have HF := Lib.hid (HNV.out (fun hv => wB_no h4 hv.wrong))
    go_enter Try.func41, Try.ntmps41
    go_wp2_with (go_at_call 53; refine (uwithin_any _ _ _ _).mono ?_; rintro e w' ⟨rfl, rfl⟩; first | rw [h1] | rw [h2] | rw [h4])
    go_ret
    exact ⟨ret_int HF.out.symm, by go_grown⟩
  have HV0 := Lib.hid (show validMB M = (allTo (fun i => leverB (lnth M.levers i)) M.levers.length && allTo (fun i => balB (bnth M.bals i)) M.bals.length) by
    have e1 := wB_iff.1 h2
    simp only [validMB, h1, h4, spanB, decide_eq_true hn1, decide_eq_true hn2, decide_eq_true e1.1, decide_eq_true e1.2, decide_eq_true h3, Bool.and_true, Bool.true_and])
  go_enter Try.func41, Try.ntmps41
  go_wp2_with (go_at_call 53; refine (uwithin_any _ _ _ _).mono ?_; rintro e w' ⟨rfl, rfl⟩; first | rw [h1] | rw [h2] | rw [h4])
  clear h1 h2 h3 h4 h3' hn1' hn2'
  go_loopw [3] (fun i wr => ∃ k : Nat, k ≤ M.levers.length ∧ i = .int .i64 k ∧ Hid (Below (w.heap.size + 1) (w.alloc (.cells #[.slice a M.levers.length cap, .int .i64 M.water, .int .i64 M.lkLo, .int .i64 M.lkHi, .slice a2 M.bals.length cap2, .int .i64 M.wrong] 27)) wr) ∧ Hid (allTo (fun i => leverB (lnth M.levers i)) k = true)) (fun i _ => M.levers.length - (intOf i).toNat)
  case atStart => exact ⟨0, Nat.zero_le _, rfl, Lib.hid (Below.refl _ _), Lib.hid rfl⟩
  case round =>
    obtain ⟨k, hk, rfl, hbl, hall⟩ := hrel
    have hw1 := boxed hbl.out
    have hsz : w.heap.size + 1 ≤ wr.heap.size := by have := hbl.out.size; simpa using this
    obtain ⟨c0, c1, c2, c3, c4, c5⟩ := cells6 ((hbl.out.block w.heap.size (by omega)).trans (heap_new w _))
    by_cases hlt : k < M.levers.length
    · have hlt' : ((k : Nat) : Int) < (M.levers.length : Int) := by omega
      obtain ⟨rfl, hbw⟩ := HA.out (by omega)
      have HT := Lib.hid ((HC.out k hlt).below hw1 hbw)
      obtain ⟨j1, j2, j3⟩ := HI.out k hlt
      unfold I64 at j1 j2 j3
      have hno : leverB (lnth M.levers k) = false → RV = 30 := fun h => HNV.out (fun hv => by
        have h5 := validM_iff.2 hv
        rw [HV0.out, allTo_false (p := fun i => leverB (lnth M.levers i)) (n := M.levers.length) hlt h] at h5
        simp at h5)
      have HNO := Lib.hid hno
      have HST := Lib.hid (fun h => allTo_step (p := fun i => leverB (lnth M.levers i)) hall h)
      have hlv : leverB (lnth M.levers k) = (wB (lnth M.levers k).long 1 1000 && spanB (lnth M.levers k).lo (lnth M.levers k).hi 1 1000) := rfl
      obtain ⟨LG, hLG⟩ : ∃ x, (lnth M.levers k).long = x := ⟨_, rfl⟩
      obtain ⟨LO, hLO⟩ : ∃ x, (lnth M.levers k).lo = x := ⟨_, rfl⟩
      obtain ⟨HH, hHI⟩ : ∃ x, (lnth M.levers k).hi = x := ⟨_, rfl⟩
      rw [hLG, hLO, hHI] at hlv HT
      rw [hLG] at j1
      rw [hLO] at j2
      rw [hHI] at j3
      have HLV := Lib.hid hlv
      have HC0 := Lib.hid c0
      have HW1 := Lib.hid hw1
      have hl0 : (⟨w.heap.size, 0, none⟩ : Addr).block < wr.heap.size := by show w.heap.size < _; omega
      have hlb : b < wr.heap.size := by omega
      clear hno hlv hLG hLO hHI hw1 hall c1 c2 c3 c4 c5
      cases h1 : wB LG 1 1000 with
      | false =>
        have HF := Lib.hid (HNO.out (by rw [HLV.out, h1]; rfl))
        have HWA := Lib.hid (fun W => uwithin_to h1 W)
        clear h1
        go_wp2_with fail
        refine wp_region_facts _ 36 [51, 52, 53, 54, 55, 56, 57, 58, 59, 60, 61, 62, 63, 64, 65, 66, 67, 68, 69, 70, 71, 72, 73, 74, 75, 76, 77, 78, 79, 80, 81, 82, 83, 84, 85, 86] [isV (.pointer (some ⟨w.heap.size, 0, none⟩)), isV (.slice (some ⟨b, off, none⟩) M.levers.length cap), isV (.int .i64 (k : Nat)), isV (.pointer (some ⟨b, off + k * 3, none⟩)), isV (.pointer (some ⟨b, off + k * 3, none⟩)), isV (.int .i64 LG), ⟨fun v W => v = .bool false, fun _ _ _ h _ => h⟩, isV (.bool true), isV (.bool true), isV (undef), isV (undef), isV (undef), isV (undef), isV (undef), isV (undef), isV (undef), isV (undef), isV (undef), isV (undef), isV (undef), isV (undef), isV (undef), isV (undef), isV (undef), isV (undef), isV (.bool true), isV (.bool true), isV (undef), isV (undef), isV (undef), isV (undef), isV (undef), isV (undef), isV (undef), isV (undef), isV (.bool true)] (by kernel_rfl) (by kernel_rfl) (by kernel_rfl) rfl (by decide) (by decide) (by simp) ?step ?rest
        case step =>
          intro i ac W d hi hd hb hoff hdep
          have z0 := (hb.cell hl0).trans HC0.out
          obtain ⟨d0, d1, d2⟩ := HT.out.below hb hlb
          have hi2 : i = 0 ∨ i = 1 ∨ i = 2 ∨ i = 3 ∨ i = 4 ∨ i = 5 ∨ i = 6 ∨ i = 7 ∨ i = 8 ∨ i = 9 ∨ i = 10 ∨ i = 11 ∨ i = 12 ∨ i = 13 ∨ i = 14 ∨ i = 15 ∨ i = 16 ∨ i = 17 ∨ i = 18 ∨ i = 19 ∨ i = 20 ∨ i = 21 ∨ i = 22 ∨ i = 23 ∨ i = 24 ∨ i = 25 ∨ i = 26 ∨ i = 27 ∨ i = 28 ∨ i = 29 ∨ i = 30 ∨ i = 31 ∨ i = 32 ∨ i = 33 ∨ i = 34 ∨ i = 35 := by omega
          rcases hi2 with rfl | rfl | rfl | rfl | rfl | rfl | rfl | rfl | rfl | rfl | rfl | rfl | rfl | rfl | rfl | rfl | rfl | rfl | rfl | rfl | rfl | rfl | rfl | rfl | rfl | rfl | rfl | rfl | rfl | rfl | rfl | rfl | rfl | rfl | rfl | rfl
          · obtain rfl : 51 = d := by simpa using hd
            have q1 : ac.tmps[1]?.getD undef = .pointer (some ⟨w.heap.size, 0, none⟩) := (eval_tmp _ _).symm.trans <| (hoff 1 (by decide)).trans rfl
            refine fact_value rfl rfl rfl (v := .pointer (some ⟨w.heap.size, 0, none⟩)) (W' := W) ?_ (Below.refl _ _) rfl
            simp only [execOp]
            go_simp
          · obtain rfl : 52 = d := by simpa using hd
            have q51 : ac.tmps[51]?.getD undef = .pointer (some ⟨w.heap.size, 0, none⟩) := (eval_tmp _ _).symm.trans (hdep 0 51 rfl rfl)
            refine fact_value rfl rfl rfl (v := .slice (some ⟨b, off, none⟩) M.levers.length cap) (W' := W) ?_ (Below.refl _ _) rfl
            simp only [execOp]
            go_simp
          · obtain rfl : 53 = d := by simpa using hd
            have q3 : ac.tmps[3]?.getD undef = .int .i64 (k : Nat) := (eval_tmp _ _).symm.trans <| (hoff 3 (by decide)).trans rfl
            refine fact_value rfl rfl rfl (v := .int .i64 (k : Nat)) (W' := W) ?_ (Below.refl _ _) rfl
            simp only [execOp]
            go_simp
          · obtain rfl : 54 = d := by simpa using hd
            have q52 : ac.tmps[52]?.getD undef = .slice (some ⟨b, off, none⟩) M.levers.length cap := (eval_tmp _ _).symm.trans (hdep 1 52 rfl rfl)
            have q53 : ac.tmps[53]?.getD undef = .int .i64 (k : Nat) := (eval_tmp _ _).symm.trans (hdep 2 53 rfl rfl)
            refine fact_value rfl rfl rfl (v := .pointer (some ⟨b, off + k * 3, none⟩)) (W' := W) ?_ (Below.refl _ _) rfl
            simp only [execOp]
            go_simp
          · obtain rfl : 55 = d := by simpa using hd
            have q54 : ac.tmps[54]?.getD undef = .pointer (some ⟨b, off + k * 3, none⟩) := (eval_tmp _ _).symm.trans (hdep 3 54 rfl rfl)
            refine fact_value rfl rfl rfl (v := .pointer (some ⟨b, off + k * 3, none⟩)) (W' := W) ?_ (Below.refl _ _) rfl
            simp only [execOp]
            go_simp
          · obtain rfl : 56 = d := by simpa using hd
            have q55 : ac.tmps[55]?.getD undef = .pointer (some ⟨b, off + k * 3, none⟩) := (eval_tmp _ _).symm.trans (hdep 4 55 rfl rfl)
            refine fact_value rfl rfl rfl (v := .int .i64 LG) (W' := W) ?_ (Below.refl _ _) rfl
            simp only [execOp]
            go_simp
          · obtain rfl : 57 = d := by simpa using hd
            have q56 : ac.tmps[56]?.getD undef = .int .i64 LG := (eval_tmp _ _).symm.trans (hdep 5 56 rfl rfl)
            refine fact_call rfl rfl rfl (f := 53) (args := #[.int .i64 LG, .int .i64 1, .int .i64 1000]) ?_ ?_
            · simp only [execOp]
              go_simp
            · refine (HWA.out W).mono ?_
              rintro e w' ⟨rfl, rfl⟩
              exact ⟨_, rfl, Below.refl _ _, rfl⟩
          · obtain rfl : 58 = d := by simpa using hd
            have q57 : (ac.tmps[57]?.getD undef) = .bool false := eval_tmp ac _ ▸ hdep 6 57 rfl rfl
            refine fact_value rfl rfl rfl (v := .bool true) (W' := W) ?_ (Below.refl _ _) rfl
            simp only [execOp]
            go_simp
          · obtain rfl : 59 = d := by simpa using hd
            have q58 : ac.tmps[58]?.getD undef = .bool true := (eval_tmp _ _).symm.trans (hdep 7 58 rfl rfl)
            refine fact_value rfl rfl rfl (v := .bool true) (W' := W) ?_ (Below.refl _ _) rfl
            simp only [execOp]
            go_simp
          · obtain rfl : 60 = d := by simpa using hd
            have q59 : ac.tmps[59]?.getD undef = .bool true := (eval_tmp _ _).symm.trans (hdep 8 59 rfl rfl)
            exact fact_off rfl (wants_off (t := 59) rfl rfl q59) rfl rfl
          · obtain rfl : 61 = d := by simpa using hd
            have q59 : ac.tmps[59]?.getD undef = .bool true := (eval_tmp _ _).symm.trans (hdep 8 59 rfl rfl)
            exact fact_off rfl (wants_off (t := 59) rfl rfl q59) rfl rfl
          · obtain rfl : 62 = d := by simpa using hd
            have q59 : ac.tmps[59]?.getD undef = .bool true := (eval_tmp _ _).symm.trans (hdep 8 59 rfl rfl)
            exact fact_off rfl (wants_off (t := 59) rfl rfl q59) rfl rfl
          · obtain rfl : 63 = d := by simpa using hd
            have q59 : ac.tmps[59]?.getD undef = .bool true := (eval_tmp _ _).symm.trans (hdep 8 59 rfl rfl)
            exact fact_off rfl (wants_off (t := 59) rfl rfl q59) rfl rfl
          · obtain rfl : 64 = d := by simpa using hd
            have q59 : ac.tmps[59]?.getD undef = .bool true := (eval_tmp _ _).symm.trans (hdep 8 59 rfl rfl)
            exact fact_off rfl (wants_off (t := 59) rfl rfl q59) rfl rfl
          · obtain rfl : 65 = d := by simpa using hd
            have q59 : ac.tmps[59]?.getD undef = .bool true := (eval_tmp _ _).symm.trans (hdep 8 59 rfl rfl)
            exact fact_off rfl (wants_off (t := 59) rfl rfl q59) rfl rfl
          · obtain rfl : 66 = d := by simpa using hd
            have q59 : ac.tmps[59]?.getD undef = .bool true := (eval_tmp _ _).symm.trans (hdep 8 59 rfl rfl)
            exact fact_off rfl (wants_off (t := 59) rfl rfl q59) rfl rfl
          · obtain rfl : 67 = d := by simpa using hd
            have q59 : ac.tmps[59]?.getD undef = .bool true := (eval_tmp _ _).symm.trans (hdep 8 59 rfl rfl)
            exact fact_off rfl (wants_off (t := 59) rfl rfl q59) rfl rfl
          · obtain rfl : 68 = d := by simpa using hd
            have q59 : ac.tmps[59]?.getD undef = .bool true := (eval_tmp _ _).symm.trans (hdep 8 59 rfl rfl)
            exact fact_off rfl (wants_off (t := 59) rfl rfl q59) rfl rfl
          · obtain rfl : 69 = d := by simpa using hd
            have q59 : ac.tmps[59]?.getD undef = .bool true := (eval_tmp _ _).symm.trans (hdep 8 59 rfl rfl)
            exact fact_off rfl (wants_off (t := 59) rfl rfl q59) rfl rfl
          · obtain rfl : 70 = d := by simpa using hd
            have q59 : ac.tmps[59]?.getD undef = .bool true := (eval_tmp _ _).symm.trans (hdep 8 59 rfl rfl)
            exact fact_off rfl (wants_off (t := 59) rfl rfl q59) rfl rfl
          · obtain rfl : 71 = d := by simpa using hd
            have q59 : ac.tmps[59]?.getD undef = .bool true := (eval_tmp _ _).symm.trans (hdep 8 59 rfl rfl)
            exact fact_off rfl (wants_off (t := 59) rfl rfl q59) rfl rfl
          · obtain rfl : 72 = d := by simpa using hd
            have q59 : ac.tmps[59]?.getD undef = .bool true := (eval_tmp _ _).symm.trans (hdep 8 59 rfl rfl)
            exact fact_off rfl (wants_off (t := 59) rfl rfl q59) rfl rfl
          · obtain rfl : 73 = d := by simpa using hd
            have q59 : ac.tmps[59]?.getD undef = .bool true := (eval_tmp _ _).symm.trans (hdep 8 59 rfl rfl)
            exact fact_off rfl (wants_off (t := 59) rfl rfl q59) rfl rfl
          · obtain rfl : 74 = d := by simpa using hd
            have q59 : ac.tmps[59]?.getD undef = .bool true := (eval_tmp _ _).symm.trans (hdep 8 59 rfl rfl)
            exact fact_off rfl (wants_off (t := 59) rfl rfl q59) rfl rfl
          · obtain rfl : 75 = d := by simpa using hd
            have q59 : ac.tmps[59]?.getD undef = .bool true := (eval_tmp _ _).symm.trans (hdep 8 59 rfl rfl)
            exact fact_off rfl (wants_off (t := 59) rfl rfl q59) rfl rfl
          · obtain rfl : 76 = d := by simpa using hd
            have q59 : ac.tmps[59]?.getD undef = .bool true := (eval_tmp _ _).symm.trans (hdep 8 59 rfl rfl)
            have q75 : ac.tmps[75]?.getD undef = undef := (eval_tmp _ _).symm.trans (hdep 24 75 rfl rfl)
            refine fact_value rfl rfl rfl (v := .bool true) (W' := W) ?_ (Below.refl _ _) rfl
            simp only [execOp]
            go_simp
          · obtain rfl : 77 = d := by simpa using hd
            have q76 : ac.tmps[76]?.getD undef = .bool true := (eval_tmp _ _).symm.trans (hdep 25 76 rfl rfl)
            refine fact_value rfl rfl rfl (v := .bool true) (W' := W) ?_ (Below.refl _ _) rfl
            simp only [execOp]
            go_simp
          · obtain rfl : 78 = d := by simpa using hd
            have q77 : ac.tmps[77]?.getD undef = .bool true := (eval_tmp _ _).symm.trans (hdep 26 77 rfl rfl)
            exact fact_off rfl (wants_off (t := 77) rfl rfl q77) rfl rfl
          · obtain rfl : 79 = d := by simpa using hd
            have q77 : ac.tmps[77]?.getD undef = .bool true := (eval_tmp _ _).symm.trans (hdep 26 77 rfl rfl)
            exact fact_off rfl (wants_off (t := 77) rfl rfl q77) rfl rfl
          · obtain rfl : 80 = d := by simpa using hd
            have q77 : ac.tmps[77]?.getD undef = .bool true := (eval_tmp _ _).symm.trans (hdep 26 77 rfl rfl)
            exact fact_off rfl (wants_off (t := 77) rfl rfl q77) rfl rfl
          · obtain rfl : 81 = d := by simpa using hd
            have q77 : ac.tmps[77]?.getD undef = .bool true := (eval_tmp _ _).symm.trans (hdep 26 77 rfl rfl)
            exact fact_off rfl (wants_off (t := 77) rfl rfl q77) rfl rfl
          · obtain rfl : 82 = d := by simpa using hd
            have q77 : ac.tmps[77]?.getD undef = .bool true := (eval_tmp _ _).symm.trans (hdep 26 77 rfl rfl)
            exact fact_off rfl (wants_off (t := 77) rfl rfl q77) rfl rfl
          · obtain rfl : 83 = d := by simpa using hd
            have q77 : ac.tmps[77]?.getD undef = .bool true := (eval_tmp _ _).symm.trans (hdep 26 77 rfl rfl)
            exact fact_off rfl (wants_off (t := 77) rfl rfl q77) rfl rfl
          · obtain rfl : 84 = d := by simpa using hd
            have q77 : ac.tmps[77]?.getD undef = .bool true := (eval_tmp _ _).symm.trans (hdep 26 77 rfl rfl)
            exact fact_off rfl (wants_off (t := 77) rfl rfl q77) rfl rfl
          · obtain rfl : 85 = d := by simpa using hd
            have q77 : ac.tmps[77]?.getD undef = .bool true := (eval_tmp _ _).symm.trans (hdep 26 77 rfl rfl)
            exact fact_off rfl (wants_off (t := 77) rfl rfl q77) rfl rfl
          · obtain rfl : 86 = d := by simpa using hd
            have q77 : ac.tmps[77]?.getD undef = .bool true := (eval_tmp _ _).symm.trans (hdep 26 77 rfl rfl)
            have q85 : ac.tmps[85]?.getD undef = undef := (eval_tmp _ _).symm.trans (hdep 34 85 rfl rfl)
            refine fact_value rfl rfl rfl (v := .bool true) (W' := W) ?_ (Below.refl _ _) rfl
            simp only [execOp]
            go_simp
        case rest =>
          intro vs W hvl hb hval
          obtain ⟨v0, tl0, rfl, hl0⟩ := len_more hvl
          obtain ⟨v1, tl1, rfl, hl1⟩ := len_more hl0
          obtain ⟨v2, tl2, rfl, hl2⟩ := len_more hl1
          obtain ⟨v3, tl3, rfl, hl3⟩ := len_more hl2
          obtain ⟨v4, tl4, rfl, hl4⟩ := len_more hl3
          obtain ⟨v5, tl5, rfl, hl5⟩ := len_more hl4
          obtain ⟨v6, tl6, rfl, hl6⟩ := len_more hl5
          obtain ⟨v7, tl7, rfl, hl7⟩ := len_more hl6
          obtain ⟨v8, tl8, rfl, hl8⟩ := len_more hl7
          obtain ⟨v9, tl9, rfl, hl9⟩ := len_more hl8
          obtain ⟨v10, tl10, rfl, hl10⟩ := len_more hl9
          obtain ⟨v11, tl11, rfl, hl11⟩ := len_more hl10
          obtain ⟨v12, tl12, rfl, hl12⟩ := len_more hl11
          obtain ⟨v13, tl13, rfl, hl13⟩ := len_more hl12
          obtain ⟨v14, tl14, rfl, hl14⟩ := len_more hl13
          obtain ⟨v15, tl15, rfl, hl15⟩ := len_more hl14
          obtain ⟨v16, tl16, rfl, hl16⟩ := len_more hl15
          obtain ⟨v17, tl17, rfl, hl17⟩ := len_more hl16
          obtain ⟨v18, tl18, rfl, hl18⟩ := len_more hl17
          obtain ⟨v19, tl19, rfl, hl19⟩ := len_more hl18
          obtain ⟨v20, tl20, rfl, hl20⟩ := len_more hl19
          obtain ⟨v21, tl21, rfl, hl21⟩ := len_more hl20
          obtain ⟨v22, tl22, rfl, hl22⟩ := len_more hl21
          obtain ⟨v23, tl23, rfl, hl23⟩ := len_more hl22
          obtain ⟨v24, tl24, rfl, hl24⟩ := len_more hl23
          obtain ⟨v25, tl25, rfl, hl25⟩ := len_more hl24
          obtain ⟨v26, tl26, rfl, hl26⟩ := len_more hl25
          obtain ⟨v27, tl27, rfl, hl27⟩ := len_more hl26
          obtain ⟨v28, tl28, rfl, hl28⟩ := len_more hl27
          obtain ⟨v29, tl29, rfl, hl29⟩ := len_more hl28
          obtain ⟨v30, tl30, rfl, hl30⟩ := len_more hl29
          obtain ⟨v31, tl31, rfl, hl31⟩ := len_more hl30
          obtain ⟨v32, tl32, rfl, hl32⟩ := len_more hl31
          obtain ⟨v33, tl33, rfl, hl33⟩ := len_more hl32
          obtain ⟨v34, tl34, rfl, hl34⟩ := len_more hl33
          obtain ⟨v35, tl35, rfl, hl35⟩ := len_more hl34
          obtain rfl := List.length_eq_zero_iff.1 hl35
          clear hl0 hl1 hl2 hl3 hl4 hl5 hl6 hl7 hl8 hl9 hl10 hl11 hl12 hl13 hl14 hl15 hl16 hl17 hl18 hl19 hl20 hl21 hl22 hl23 hl24 hl25 hl26 hl27 hl28 hl29 hl30 hl31 hl32 hl33 hl34
          obtain rfl : v0 = .pointer (some ⟨w.heap.size, 0, none⟩) := by obtain ⟨u, e, h⟩ := hval 0 (by omega); have e2 : some v0 = some u := e; injection e2 with e2; subst e2; exact h
          obtain rfl : v1 = .slice (some ⟨b, off, none⟩) M.levers.length cap := by obtain ⟨u, e, h⟩ := hval 1 (by omega); have e2 : some v1 = some u := e; injection e2 with e2; subst e2; exact h
          obtain rfl : v2 = .int .i64 (k : Nat) := by obtain ⟨u, e, h⟩ := hval 2 (by omega); have e2 : some v2 = some u := e; injection e2 with e2; subst e2; exact h
          obtain rfl : v3 = .pointer (some ⟨b, off + k * 3, none⟩) := by obtain ⟨u, e, h⟩ := hval 3 (by omega); have e2 : some v3 = some u := e; injection e2 with e2; subst e2; exact h
          obtain rfl : v4 = .pointer (some ⟨b, off + k * 3, none⟩) := by obtain ⟨u, e, h⟩ := hval 4 (by omega); have e2 : some v4 = some u := e; injection e2 with e2; subst e2; exact h
          obtain rfl : v5 = .int .i64 LG := by obtain ⟨u, e, h⟩ := hval 5 (by omega); have e2 : some v5 = some u := e; injection e2 with e2; subst e2; exact h
          have k6 : v6 = .bool false := by obtain ⟨u, e, h⟩ := hval 6 (by omega); have e2 : some v6 = some u := e; injection e2 with e2; subst e2; exact h
          obtain rfl : v7 = .bool true := by obtain ⟨u, e, h⟩ := hval 7 (by omega); have e2 : some v7 = some u := e; injection e2 with e2; subst e2; exact h
          obtain rfl : v8 = .bool true := by obtain ⟨u, e, h⟩ := hval 8 (by omega); have e2 : some v8 = some u := e; injection e2 with e2; subst e2; exact h
          obtain rfl : v9 = undef := by obtain ⟨u, e, h⟩ := hval 9 (by omega); have e2 : some v9 = some u := e; injection e2 with e2; subst e2; exact h
          obtain rfl : v10 = undef := by obtain ⟨u, e, h⟩ := hval 10 (by omega); have e2 : some v10 = some u := e; injection e2 with e2; subst e2; exact h
          obtain rfl : v11 = undef := by obtain ⟨u, e, h⟩ := hval 11 (by omega); have e2 : some v11 = some u := e; injection e2 with e2; subst e2; exact h
          obtain rfl : v12 = undef := by obtain ⟨u, e, h⟩ := hval 12 (by omega); have e2 : some v12 = some u := e; injection e2 with e2; subst e2; exact h
          obtain rfl : v13 = undef := by obtain ⟨u, e, h⟩ := hval 13 (by omega); have e2 : some v13 = some u := e; injection e2 with e2; subst e2; exact h
          obtain rfl : v14 = undef := by obtain ⟨u, e, h⟩ := hval 14 (by omega); have e2 : some v14 = some u := e; injection e2 with e2; subst e2; exact h
          obtain rfl : v15 = undef := by obtain ⟨u, e, h⟩ := hval 15 (by omega); have e2 : some v15 = some u := e; injection e2 with e2; subst e2; exact h
          obtain rfl : v16 = undef := by obtain ⟨u, e, h⟩ := hval 16 (by omega); have e2 : some v16 = some u := e; injection e2 with e2; subst e2; exact h
          obtain rfl : v17 = undef := by obtain ⟨u, e, h⟩ := hval 17 (by omega); have e2 : some v17 = some u := e; injection e2 with e2; subst e2; exact h
          obtain rfl : v18 = undef := by obtain ⟨u, e, h⟩ := hval 18 (by omega); have e2 : some v18 = some u := e; injection e2 with e2; subst e2; exact h
          obtain rfl : v19 = undef := by obtain ⟨u, e, h⟩ := hval 19 (by omega); have e2 : some v19 = some u := e; injection e2 with e2; subst e2; exact h
          obtain rfl : v20 = undef := by obtain ⟨u, e, h⟩ := hval 20 (by omega); have e2 : some v20 = some u := e; injection e2 with e2; subst e2; exact h
          obtain rfl : v21 = undef := by obtain ⟨u, e, h⟩ := hval 21 (by omega); have e2 : some v21 = some u := e; injection e2 with e2; subst e2; exact h
          obtain rfl : v22 = undef := by obtain ⟨u, e, h⟩ := hval 22 (by omega); have e2 : some v22 = some u := e; injection e2 with e2; subst e2; exact h
          obtain rfl : v23 = undef := by obtain ⟨u, e, h⟩ := hval 23 (by omega); have e2 : some v23 = some u := e; injection e2 with e2; subst e2; exact h
          obtain rfl : v24 = undef := by obtain ⟨u, e, h⟩ := hval 24 (by omega); have e2 : some v24 = some u := e; injection e2 with e2; subst e2; exact h
          obtain rfl : v25 = .bool true := by obtain ⟨u, e, h⟩ := hval 25 (by omega); have e2 : some v25 = some u := e; injection e2 with e2; subst e2; exact h
          obtain rfl : v26 = .bool true := by obtain ⟨u, e, h⟩ := hval 26 (by omega); have e2 : some v26 = some u := e; injection e2 with e2; subst e2; exact h
          obtain rfl : v27 = undef := by obtain ⟨u, e, h⟩ := hval 27 (by omega); have e2 : some v27 = some u := e; injection e2 with e2; subst e2; exact h
          obtain rfl : v28 = undef := by obtain ⟨u, e, h⟩ := hval 28 (by omega); have e2 : some v28 = some u := e; injection e2 with e2; subst e2; exact h
          obtain rfl : v29 = undef := by obtain ⟨u, e, h⟩ := hval 29 (by omega); have e2 : some v29 = some u := e; injection e2 with e2; subst e2; exact h
          obtain rfl : v30 = undef := by obtain ⟨u, e, h⟩ := hval 30 (by omega); have e2 : some v30 = some u := e; injection e2 with e2; subst e2; exact h
          obtain rfl : v31 = undef := by obtain ⟨u, e, h⟩ := hval 31 (by omega); have e2 : some v31 = some u := e; injection e2 with e2; subst e2; exact h
          obtain rfl : v32 = undef := by obtain ⟨u, e, h⟩ := hval 32 (by omega); have e2 : some v32 = some u := e; injection e2 with e2; subst e2; exact h
          obtain rfl : v33 = undef := by obtain ⟨u, e, h⟩ := hval 33 (by omega); have e2 : some v33 = some u := e; injection e2 with e2; subst e2; exact h
          obtain rfl : v34 = undef := by obtain ⟨u, e, h⟩ := hval 34 (by omega); have e2 : some v34 = some u := e; injection e2 with e2; subst e2; exact h
          obtain rfl : v35 = .bool true := by obtain ⟨u, e, h⟩ := hval 35 (by omega); have e2 : some v35 = some u := e; injection e2 with e2; subst e2; exact h
          clear hval
          simp only [putL, Act.put, List.drop, List.setIfInBounds_toArray, List.set_cons_zero, List.set_cons_succ]
          have HB8 := Lib.hid (HW1.out.trans (hb.mono (by omega)))
          clear hb
          go_wp2_with fail
          go_ret
          exact ⟨ret_int HF.out.symm, HB8.out⟩
      | true =>
        have HWA := Lib.hid (fun W => uwithin_to h1 W)
        cases h2 : wB LO 1 HH with
        | false =>
          have HF := Lib.hid (HNO.out (by
            have h3 := wB_no h2
            rw [HLV.out, h1, Bool.true_and]
            refine Bool.eq_false_iff.2 (fun h => ?_)
            simp only [spanB, Bool.and_eq_true, decide_eq_true_eq] at h
            exact h3 h.1))
          have HWB := Lib.hid (fun W => uwithin_to h2 W)
          clear h1 h2
          go_wp2_with fail
          refine wp_region_facts _ 36 [51, 52, 53, 54, 55, 56, 57, 58, 59, 60, 61, 62, 63, 64, 65, 66, 67, 68, 69, 70, 71, 72, 73, 74, 75, 76, 77, 78, 79, 80, 81, 82, 83, 84, 85, 86] [isV (.pointer (some ⟨w.heap.size, 0, none⟩)), isV (.slice (some ⟨b, off, none⟩) M.levers.length cap), isV (.int .i64 (k : Nat)), isV (.pointer (some ⟨b, off + k * 3, none⟩)), isV (.pointer (some ⟨b, off + k * 3, none⟩)), isV (.int .i64 LG), ⟨fun v W => v = .bool true, fun _ _ _ h _ => h⟩, isV (.bool false), isV (.bool false), isV (.pointer (some ⟨w.heap.size, 0, none⟩)), isV (.slice (some ⟨b, off, none⟩) M.levers.length cap), isV (.int .i64 (k : Nat)), isV (.pointer (some ⟨b, off + k * 3, none⟩)), isV (.pointer (some ⟨b, off + k * 3 + 1, none⟩)), isV (.pointer (some ⟨b, off + k * 3 + 1, none⟩)), isV (.int .i64 LO), isV (.pointer (some ⟨w.heap.size, 0, none⟩)), isV (.slice (some ⟨b, off, none⟩) M.levers.length cap), isV (.int .i64 (k : Nat)), isV (.pointer (some ⟨b, off + k * 3, none⟩)), isV (.pointer (some ⟨b, off + k * 3 + 1, none⟩)), isV (.pointer (some ⟨b, off + k * 3 + 1 + 1, none⟩)), isV (.int .i64 HH), ⟨fun v W => v = .bool false, fun _ _ _ h _ => h⟩, isV (.bool true), isV (.bool true), isV (.bool true), isV (undef), isV (undef), isV (undef), isV (undef), isV (undef), isV (undef), isV (undef), isV (undef), isV (.bool true)] (by kernel_rfl) (by kernel_rfl) (by kernel_rfl) rfl (by decide) (by decide) (by simp) ?step ?rest
          case step =>
            intro i ac W d hi hd hb hoff hdep
            have z0 := (hb.cell hl0).trans HC0.out
            obtain ⟨d0, d1, d2⟩ := HT.out.below hb hlb
            have hi2 : i = 0 ∨ i = 1 ∨ i = 2 ∨ i = 3 ∨ i = 4 ∨ i = 5 ∨ i = 6 ∨ i = 7 ∨ i = 8 ∨ i = 9 ∨ i = 10 ∨ i = 11 ∨ i = 12 ∨ i = 13 ∨ i = 14 ∨ i = 15 ∨ i = 16 ∨ i = 17 ∨ i = 18 ∨ i = 19 ∨ i = 20 ∨ i = 21 ∨ i = 22 ∨ i = 23 ∨ i = 24 ∨ i = 25 ∨ i = 26 ∨ i = 27 ∨ i = 28 ∨ i = 29 ∨ i = 30 ∨ i = 31 ∨ i = 32 ∨ i = 33 ∨ i = 34 ∨ i = 35 := by omega
            rcases hi2 with rfl | rfl | rfl | rfl | rfl | rfl | rfl | rfl | rfl | rfl | rfl | rfl | rfl | rfl | rfl | rfl | rfl | rfl | rfl | rfl | rfl | rfl | rfl | rfl | rfl | rfl | rfl | rfl | rfl | rfl | rfl | rfl | rfl | rfl | rfl | rfl
            · obtain rfl : 51 = d := by simpa using hd
              have q1 : ac.tmps[1]?.getD undef = .pointer (some ⟨w.heap.size, 0, none⟩) := (eval_tmp _ _).symm.trans <| (hoff 1 (by decide)).trans rfl
              refine fact_value rfl rfl rfl (v := .pointer (some ⟨w.heap.size, 0, none⟩)) (W' := W) ?_ (Below.refl _ _) rfl
              simp only [execOp]
              go_simp
            · obtain rfl : 52 = d := by simpa using hd
              have q51 : ac.tmps[51]?.getD undef = .pointer (some ⟨w.heap.size, 0, none⟩) := (eval_tmp _ _).symm.trans (hdep 0 51 rfl rfl)
              refine fact_value rfl rfl rfl (v := .slice (some ⟨b, off, none⟩) M.levers.length cap) (W' := W) ?_ (Below.refl _ _) rfl
              simp only [execOp]
              go_simp
            · obtain rfl : 53 = d := by simpa using hd
              have q3 : ac.tmps[3]?.getD undef = .int .i64 (k : Nat) := (eval_tmp _ _).symm.trans <| (hoff 3 (by decide)).trans rfl
              refine fact_value rfl rfl rfl (v := .int .i64 (k : Nat)) (W' := W) ?_ (Below.refl _ _) rfl
              simp only [execOp]
              go_simp
            · obtain rfl : 54 = d := by simpa using hd
              have q52 : ac.tmps[52]?.getD undef = .slice (some ⟨b, off, none⟩) M.levers.length cap := (eval_tmp _ _).symm.trans (hdep 1 52 rfl rfl)
              have q53 : ac.tmps[53]?.getD undef = .int .i64 (k : Nat) := (eval_tmp _ _).symm.trans (hdep 2 53 rfl rfl)
              refine fact_value rfl rfl rfl (v := .pointer (some ⟨b, off + k * 3, none⟩)) (W' := W) ?_ (Below.refl _ _) rfl
              simp only [execOp]
              go_simp
            · obtain rfl : 55 = d := by simpa using hd
              have q54 : ac.tmps[54]?.getD undef = .pointer (some ⟨b, off + k * 3, none⟩) := (eval_tmp _ _).symm.trans (hdep 3 54 rfl rfl)
              refine fact_value rfl rfl rfl (v := .pointer (some ⟨b, off + k * 3, none⟩)) (W' := W) ?_ (Below.refl _ _) rfl
              simp only [execOp]
              go_simp
            · obtain rfl : 56 = d := by simpa using hd
              have q55 : ac.tmps[55]?.getD undef = .pointer (some ⟨b, off + k * 3, none⟩) := (eval_tmp _ _).symm.trans (hdep 4 55 rfl rfl)
              refine fact_value rfl rfl rfl (v := .int .i64 LG) (W' := W) ?_ (Below.refl _ _) rfl
              simp only [execOp]
              go_simp
            · obtain rfl : 57 = d := by simpa using hd
              have q56 : ac.tmps[56]?.getD undef = .int .i64 LG := (eval_tmp _ _).symm.trans (hdep 5 56 rfl rfl)
              refine fact_call rfl rfl rfl (f := 53) (args := #[.int .i64 LG, .int .i64 1, .int .i64 1000]) ?_ ?_
              · simp only [execOp]
                go_simp
              · refine (HWA.out W).mono ?_
                rintro e w' ⟨rfl, rfl⟩
                exact ⟨_, rfl, Below.refl _ _, rfl⟩
            · obtain rfl : 58 = d := by simpa using hd
              have q57 : (ac.tmps[57]?.getD undef) = .bool true := eval_tmp ac _ ▸ hdep 6 57 rfl rfl
              refine fact_value rfl rfl rfl (v := .bool false) (W' := W) ?_ (Below.refl _ _) rfl
              simp only [execOp]
              go_simp
            · obtain rfl : 59 = d := by simpa using hd
              have q58 : ac.tmps[58]?.getD undef = .bool false := (eval_tmp _ _).symm.trans (hdep 7 58 rfl rfl)
              refine fact_value rfl rfl rfl (v := .bool false) (W' := W) ?_ (Below.refl _ _) rfl
              simp only [execOp]
              go_simp
            · obtain rfl : 60 = d := by simpa using hd
              have q1 : ac.tmps[1]?.getD undef = .pointer (some ⟨w.heap.size, 0, none⟩) := (eval_tmp _ _).symm.trans <| (hoff 1 (by decide)).trans rfl
              have q59 : ac.tmps[59]?.getD undef = .bool false := (eval_tmp _ _).symm.trans (hdep 8 59 rfl rfl)
              refine fact_value_on rfl (wants_on (t := 59) rfl rfl q59) rfl (v := .pointer (some ⟨w.heap.size, 0, none⟩)) (W' := W) ?_ (Below.refl _ _) rfl
              simp only [execOp]
              go_simp
            · obtain rfl : 61 = d := by simpa using hd
              have q60 : ac.tmps[60]?.getD undef = .pointer (some ⟨w.heap.size, 0, none⟩) := (eval_tmp _ _).symm.trans (hdep 9 60 rfl rfl)
              have q59 : ac.tmps[59]?.getD undef = .bool false := (eval_tmp _ _).symm.trans (hdep 8 59 rfl rfl)
              refine fact_value_on rfl (wants_on (t := 59) rfl rfl q59) rfl (v := .slice (some ⟨b, off, none⟩) M.levers.length cap) (W' := W) ?_ (Below.refl _ _) rfl
              simp only [execOp]
              go_simp
            · obtain rfl : 62 = d := by simpa using hd
              have q3 : ac.tmps[3]?.getD undef = .int .i64 (k : Nat) := (eval_tmp _ _).symm.trans <| (hoff 3 (by decide)).trans rfl
              have q59 : ac.tmps[59]?.getD undef = .bool false := (eval_tmp _ _).symm.trans (hdep 8 59 rfl rfl)
              refine fact_value_on rfl (wants_on (t := 59) rfl rfl q59) rfl (v := .int .i64 (k : Nat)) (W' := W) ?_ (Below.refl _ _) rfl
              simp only [execOp]
              go_simp
            · obtain rfl : 63 = d := by simpa using hd
              have q61 : ac.tmps[61]?.getD undef = .slice (some ⟨b, off, none⟩) M.levers.length cap := (eval_tmp _ _).symm.trans (hdep 10 61 rfl rfl)
              have q62 : ac.tmps[62]?.getD undef = .int .i64 (k : Nat) := (eval_tmp _ _).symm.trans (hdep 11 62 rfl rfl)
              have q59 : ac.tmps[59]?.getD undef = .bool false := (eval_tmp _ _).symm.trans (hdep 8 59 rfl rfl)
              refine fact_value_on rfl (wants_on (t := 59) rfl rfl q59) rfl (v := .pointer (some ⟨b, off + k * 3, none⟩)) (W' := W) ?_ (Below.refl _ _) rfl
              simp only [execOp]
              go_simp
            · obtain rfl : 64 = d := by simpa using hd
              have q63 : ac.tmps[63]?.getD undef = .pointer (some ⟨b, off + k * 3, none⟩) := (eval_tmp _ _).symm.trans (hdep 12 63 rfl rfl)
              have q59 : ac.tmps[59]?.getD undef = .bool false := (eval_tmp _ _).symm.trans (hdep 8 59 rfl rfl)
              refine fact_value_on rfl (wants_on (t := 59) rfl rfl q59) rfl (v := .pointer (some ⟨b, off + k * 3 + 1, none⟩)) (W' := W) ?_ (Below.refl _ _) rfl
              simp only [execOp]
              go_simp
            · obtain rfl : 65 = d := by simpa using hd
              have q64 : ac.tmps[64]?.getD undef = .pointer (some ⟨b, off + k * 3 + 1, none⟩) := (eval_tmp _ _).symm.trans (hdep 13 64 rfl rfl)
              have q59 : ac.tmps[59]?.getD undef = .bool false := (eval_tmp _ _).symm.trans (hdep 8 59 rfl rfl)
              refine fact_value_on rfl (wants_on (t := 59) rfl rfl q59) rfl (v := .pointer (some ⟨b, off + k * 3 + 1, none⟩)) (W' := W) ?_ (Below.refl _ _) rfl
              simp only [execOp]
              go_simp
            · obtain rfl : 66 = d := by simpa using hd
              have q65 : ac.tmps[65]?.getD undef = .pointer (some ⟨b, off + k * 3 + 1, none⟩) := (eval_tmp _ _).symm.trans (hdep 14 65 rfl rfl)
              have q59 : ac.tmps[59]?.getD undef = .bool false := (eval_tmp _ _).symm.trans (hdep 8 59 rfl rfl)
              refine fact_value_on rfl (wants_on (t := 59) rfl rfl q59) rfl (v := .int .i64 LO) (W' := W) ?_ (Below.refl _ _) rfl
              simp only [execOp]
              go_simp
            · obtain rfl : 67 = d := by simpa using hd
              have q1 : ac.tmps[1]?.getD undef = .pointer (some ⟨w.heap.size, 0, none⟩) := (eval_tmp _ _).symm.trans <| (hoff 1 (by decide)).trans rfl
              have q59 : ac.tmps[59]?.getD undef = .bool false := (eval_tmp _ _).symm.trans (hdep 8 59 rfl rfl)
              refine fact_value_on rfl (wants_on (t := 59) rfl rfl q59) rfl (v := .pointer (some ⟨w.heap.size, 0, none⟩)) (W' := W) ?_ (Below.refl _ _) rfl
              simp only [execOp]
              go_simp
            · obtain rfl : 68 = d := by simpa using hd
              have q67 : ac.tmps[67]?.getD undef = .pointer (some ⟨w.heap.size, 0, none⟩) := (eval_tmp _ _).symm.trans (hdep 16 67 rfl rfl)
              have q59 : ac.tmps[59]?.getD undef = .bool false := (eval_tmp _ _).symm.trans (hdep 8 59 rfl rfl)
              refine fact_value_on rfl (wants_on (t := 59) rfl rfl q59) rfl (v := .slice (some ⟨b, off, none⟩) M.levers.length cap) (W' := W) ?_ (Below.refl _ _) rfl
              simp only [execOp]
              go_simp
            · obtain rfl : 69 = d := by simpa using hd
              have q3 : ac.tmps[3]?.getD undef = .int .i64 (k : Nat) := (eval_tmp _ _).symm.trans <| (hoff 3 (by decide)).trans rfl
              have q59 : ac.tmps[59]?.getD undef = .bool false := (eval_tmp _ _).symm.trans (hdep 8 59 rfl rfl)
              refine fact_value_on rfl (wants_on (t := 59) rfl rfl q59) rfl (v := .int .i64 (k : Nat)) (W' := W) ?_ (Below.refl _ _) rfl
              simp only [execOp]
              go_simp
            · obtain rfl : 70 = d := by simpa using hd
              have q68 : ac.tmps[68]?.getD undef = .slice (some ⟨b, off, none⟩) M.levers.length cap := (eval_tmp _ _).symm.trans (hdep 17 68 rfl rfl)
              have q69 : ac.tmps[69]?.getD undef = .int .i64 (k : Nat) := (eval_tmp _ _).symm.trans (hdep 18 69 rfl rfl)
              have q59 : ac.tmps[59]?.getD undef = .bool false := (eval_tmp _ _).symm.trans (hdep 8 59 rfl rfl)
              refine fact_value_on rfl (wants_on (t := 59) rfl rfl q59) rfl (v := .pointer (some ⟨b, off + k * 3, none⟩)) (W' := W) ?_ (Below.refl _ _) rfl
              simp only [execOp]
              go_simp
            · obtain rfl : 71 = d := by simpa using hd
              have q70 : ac.tmps[70]?.getD undef = .pointer (some ⟨b, off + k * 3, none⟩) := (eval_tmp _ _).symm.trans (hdep 19 70 rfl rfl)
              have q59 : ac.tmps[59]?.getD undef = .bool false := (eval_tmp _ _).symm.trans (hdep 8 59 rfl rfl)
              refine fact_value_on rfl (wants_on (t := 59) rfl rfl q59) rfl (v := .pointer (some ⟨b, off + k * 3 + 1, none⟩)) (W' := W) ?_ (Below.refl _ _) rfl
              simp only [execOp]
              go_simp
            · obtain rfl : 72 = d := by simpa using hd
              have q71 : ac.tmps[71]?.getD undef = .pointer (some ⟨b, off + k * 3 + 1, none⟩) := (eval_tmp _ _).symm.trans (hdep 20 71 rfl rfl)
              have q59 : ac.tmps[59]?.getD undef = .bool false := (eval_tmp _ _).symm.trans (hdep 8 59 rfl rfl)
              refine fact_value_on rfl (wants_on (t := 59) rfl rfl q59) rfl (v := .pointer (some ⟨b, off + k * 3 + 1 + 1, none⟩)) (W' := W) ?_ (Below.refl _ _) rfl
              simp only [execOp]
              go_simp
            · obtain rfl : 73 = d := by simpa using hd
              have q72 : ac.tmps[72]?.getD undef = .pointer (some ⟨b, off + k * 3 + 1 + 1, none⟩) := (eval_tmp _ _).symm.trans (hdep 21 72 rfl rfl)
              have q59 : ac.tmps[59]?.getD undef = .bool false := (eval_tmp _ _).symm.trans (hdep 8 59 rfl rfl)
              refine fact_value_on rfl (wants_on (t := 59) rfl rfl q59) rfl (v := .int .i64 HH) (W' := W) ?_ (Below.refl _ _) rfl
              simp only [execOp]
              go_simp
            · obtain rfl : 74 = d := by simpa using hd
              have q66 : ac.tmps[66]?.getD undef = .int .i64 LO := (eval_tmp _ _).symm.trans (hdep 15 66 rfl rfl)
              have q73 : ac.tmps[73]?.getD undef = .int .i64 HH := (eval_tmp _ _).symm.trans (hdep 22 73 rfl rfl)
              have q59 : ac.tmps[59]?.getD undef = .bool false := (eval_tmp _ _).symm.trans (hdep 8 59 rfl rfl)
              refine fact_call_on rfl (wants_on (t := 59) rfl rfl q59) rfl (f := 53) (args := #[.int .i64 LO, .int .i64 1, .int .i64 HH]) ?_ ?_
              · simp only [execOp]
                go_simp
              · refine (HWB.out W).mono ?_
                rintro e w' ⟨rfl, rfl⟩
                exact ⟨_, rfl, Below.refl _ _, rfl⟩
            · obtain rfl : 75 = d := by simpa using hd
              have q74 : (ac.tmps[74]?.getD undef) = .bool false := eval_tmp ac _ ▸ hdep 23 74 rfl rfl
              have q59 : ac.tmps[59]?.getD undef = .bool false := (eval_tmp _ _).symm.trans (hdep 8 59 rfl rfl)
              refine fact_value_on rfl (wants_on (t := 59) rfl rfl q59) rfl (v := .bool true) (W' := W) ?_ (Below.refl _ _) rfl
              simp only [execOp]
              go_simp
            · obtain rfl : 76 = d := by simpa using hd
              have q59 : ac.tmps[59]?.getD undef = .bool false := (eval_tmp _ _).symm.trans (hdep 8 59 rfl rfl)
              have q75 : ac.tmps[75]?.getD undef = .bool true := (eval_tmp _ _).symm.trans (hdep 24 75 rfl rfl)
              refine fact_value rfl rfl rfl (v := .bool true) (W' := W) ?_ (Below.refl _ _) rfl
              simp only [execOp]
              go_simp
            · obtain rfl : 77 = d := by simpa using hd
              have q76 : ac.tmps[76]?.getD undef = .bool true := (eval_tmp _ _).symm.trans (hdep 25 76 rfl rfl)
              refine fact_value rfl rfl rfl (v := .bool true) (W' := W) ?_ (Below.refl _ _) rfl
              simp only [execOp]
              go_simp
            · obtain rfl : 78 = d := by simpa using hd
              have q77 : ac.tmps[77]?.getD undef = .bool true := (eval_tmp _ _).symm.trans (hdep 26 77 rfl rfl)
              exact fact_off rfl (wants_off (t := 77) rfl rfl q77) rfl rfl
            · obtain rfl : 79 = d := by simpa using hd
              have q77 : ac.tmps[77]?.getD undef = .bool true := (eval_tmp _ _).symm.trans (hdep 26 77 rfl rfl)
              exact fact_off rfl (wants_off (t := 77) rfl rfl q77) rfl rfl
            · obtain rfl : 80 = d := by simpa using hd
              have q77 : ac.tmps[77]?.getD undef = .bool true := (eval_tmp _ _).symm.trans (hdep 26 77 rfl rfl)
              exact fact_off rfl (wants_off (t := 77) rfl rfl q77) rfl rfl
            · obtain rfl : 81 = d := by simpa using hd
              have q77 : ac.tmps[77]?.getD undef = .bool true := (eval_tmp _ _).symm.trans (hdep 26 77 rfl rfl)
              exact fact_off rfl (wants_off (t := 77) rfl rfl q77) rfl rfl
            · obtain rfl : 82 = d := by simpa using hd
              have q77 : ac.tmps[77]?.getD undef = .bool true := (eval_tmp _ _).symm.trans (hdep 26 77 rfl rfl)
              exact fact_off rfl (wants_off (t := 77) rfl rfl q77) rfl rfl
            · obtain rfl : 83 = d := by simpa using hd
              have q77 : ac.tmps[77]?.getD undef = .bool true := (eval_tmp _ _).symm.trans (hdep 26 77 rfl rfl)
              exact fact_off rfl (wants_off (t := 77) rfl rfl q77) rfl rfl
            · obtain rfl : 84 = d := by simpa using hd
              have q77 : ac.tmps[77]?.getD undef = .bool true := (eval_tmp _ _).symm.trans (hdep 26 77 rfl rfl)
              exact fact_off rfl (wants_off (t := 77) rfl rfl q77) rfl rfl
            · obtain rfl : 85 = d := by simpa using hd
              have q77 : ac.tmps[77]?.getD undef = .bool true := (eval_tmp _ _).symm.trans (hdep 26 77 rfl rfl)
              exact fact_off rfl (wants_off (t := 77) rfl rfl q77) rfl rfl
            · obtain rfl : 86 = d := by simpa using hd
              have q77 : ac.tmps[77]?.getD undef = .bool true := (eval_tmp _ _).symm.trans (hdep 26 77 rfl rfl)
              have q85 : ac.tmps[85]?.getD undef = undef := (eval_tmp _ _).symm.trans (hdep 34 85 rfl rfl)
              refine fact_value rfl rfl rfl (v := .bool true) (W' := W) ?_ (Below.refl _ _) rfl
              simp only [execOp]
              go_simp
          case rest =>
            intro vs W hvl hb hval
            obtain ⟨v0, tl0, rfl, hl0⟩ := len_more hvl
            obtain ⟨v1, tl1, rfl, hl1⟩ := len_more hl0
            obtain ⟨v2, tl2, rfl, hl2⟩ := len_more hl1
            obtain ⟨v3, tl3, rfl, hl3⟩ := len_more hl2
            obtain ⟨v4, tl4, rfl, hl4⟩ := len_more hl3
            obtain ⟨v5, tl5, rfl, hl5⟩ := len_more hl4
            obtain ⟨v6, tl6, rfl, hl6⟩ := len_more hl5
            obtain ⟨v7, tl7, rfl, hl7⟩ := len_more hl6
            obtain ⟨v8, tl8, rfl, hl8⟩ := len_more hl7
            obtain ⟨v9, tl9, rfl, hl9⟩ := len_more hl8
            obtain ⟨v10, tl10, rfl, hl10⟩ := len_more hl9
            obtain ⟨v11, tl11, rfl, hl11⟩ := len_more hl10
            obtain ⟨v12, tl12, rfl, hl12⟩ := len_more hl11
            obtain ⟨v13, tl13, rfl, hl13⟩ := len_more hl12
            obtain ⟨v14, tl14, rfl, hl14⟩ := len_more hl13
            obtain ⟨v15, tl15, rfl, hl15⟩ := len_more hl14
            obtain ⟨v16, tl16, rfl, hl16⟩ := len_more hl15
            obtain ⟨v17, tl17, rfl, hl17⟩ := len_more hl16
            obtain ⟨v18, tl18, rfl, hl18⟩ := len_more hl17
            obtain ⟨v19, tl19, rfl, hl19⟩ := len_more hl18
            obtain ⟨v20, tl20, rfl, hl20⟩ := len_more hl19
            obtain ⟨v21, tl21, rfl, hl21⟩ := len_more hl20
            obtain ⟨v22, tl22, rfl, hl22⟩ := len_more hl21
            obtain ⟨v23, tl23, rfl, hl23⟩ := len_more hl22
            obtain ⟨v24, tl24, rfl, hl24⟩ := len_more hl23
            obtain ⟨v25, tl25, rfl, hl25⟩ := len_more hl24
            obtain ⟨v26, tl26, rfl, hl26⟩ := len_more hl25
            obtain ⟨v27, tl27, rfl, hl27⟩ := len_more hl26
            obtain ⟨v28, tl28, rfl, hl28⟩ := len_more hl27
            obtain ⟨v29, tl29, rfl, hl29⟩ := len_more hl28
            obtain ⟨v30, tl30, rfl, hl30⟩ := len_more hl29
            obtain ⟨v31, tl31, rfl, hl31⟩ := len_more hl30
            obtain ⟨v32, tl32, rfl, hl32⟩ := len_more hl31
            obtain ⟨v33, tl33, rfl, hl33⟩ := len_more hl32
            obtain ⟨v34, tl34, rfl, hl34⟩ := len_more hl33
            obtain ⟨v35, tl35, rfl, hl35⟩ := len_more hl34
            obtain rfl := List.length_eq_zero_iff.1 hl35
            clear hl0 hl1 hl2 hl3 hl4 hl5 hl6 hl7 hl8 hl9 hl10 hl11 hl12 hl13 hl14 hl15 hl16 hl17 hl18 hl19 hl20 hl21 hl22 hl23 hl24 hl25 hl26 hl27 hl28 hl29 hl30 hl31 hl32 hl33 hl34
            obtain rfl : v0 = .pointer (some ⟨w.heap.size, 0, none⟩) := by obtain ⟨u, e, h⟩ := hval 0 (by omega); have e2 : some v0 = some u := e; injection e2 with e2; subst e2; exact h
            obtain rfl : v1 = .slice (some ⟨b, off, none⟩) M.levers.length cap := by obtain ⟨u, e, h⟩ := hval 1 (by omega); have e2 : some v1 = some u := e; injection e2 with e2; subst e2; exact h
            obtain rfl : v2 = .int .i64 (k : Nat) := by obtain ⟨u, e, h⟩ := hval 2 (by omega); have e2 : some v2 = some u := e; injection e2 with e2; subst e2; exact h
            obtain rfl : v3 = .pointer (some ⟨b, off + k * 3, none⟩) := by obtain ⟨u, e, h⟩ := hval 3 (by omega); have e2 : some v3 = some u := e; injection e2 with e2; subst e2; exact h
            obtain rfl : v4 = .pointer (some ⟨b, off + k * 3, none⟩) := by obtain ⟨u, e, h⟩ := hval 4 (by omega); have e2 : some v4 = some u := e; injection e2 with e2; subst e2; exact h
            obtain rfl : v5 = .int .i64 LG := by obtain ⟨u, e, h⟩ := hval 5 (by omega); have e2 : some v5 = some u := e; injection e2 with e2; subst e2; exact h
            have k6 : v6 = .bool true := by obtain ⟨u, e, h⟩ := hval 6 (by omega); have e2 : some v6 = some u := e; injection e2 with e2; subst e2; exact h
            obtain rfl : v7 = .bool false := by obtain ⟨u, e, h⟩ := hval 7 (by omega); have e2 : some v7 = some u := e; injection e2 with e2; subst e2; exact h
            obtain rfl : v8 = .bool false := by obtain ⟨u, e, h⟩ := hval 8 (by omega); have e2 : some v8 = some u := e; injection e2 with e2; subst e2; exact h
            obtain rfl : v9 = .pointer (some ⟨w.heap.size, 0, none⟩) := by obtain ⟨u, e, h⟩ := hval 9 (by omega); have e2 : some v9 = some u := e; injection e2 with e2; subst e2; exact h
            obtain rfl : v10 = .slice (some ⟨b, off, none⟩) M.levers.length cap := by obtain ⟨u, e, h⟩ := hval 10 (by omega); have e2 : some v10 = some u := e; injection e2 with e2; subst e2; exact h
            obtain rfl : v11 = .int .i64 (k : Nat) := by obtain ⟨u, e, h⟩ := hval 11 (by omega); have e2 : some v11 = some u := e; injection e2 with e2; subst e2; exact h
            obtain rfl : v12 = .pointer (some ⟨b, off + k * 3, none⟩) := by obtain ⟨u, e, h⟩ := hval 12 (by omega); have e2 : some v12 = some u := e; injection e2 with e2; subst e2; exact h
            obtain rfl : v13 = .pointer (some ⟨b, off + k * 3 + 1, none⟩) := by obtain ⟨u, e, h⟩ := hval 13 (by omega); have e2 : some v13 = some u := e; injection e2 with e2; subst e2; exact h
            obtain rfl : v14 = .pointer (some ⟨b, off + k * 3 + 1, none⟩) := by obtain ⟨u, e, h⟩ := hval 14 (by omega); have e2 : some v14 = some u := e; injection e2 with e2; subst e2; exact h
            obtain rfl : v15 = .int .i64 LO := by obtain ⟨u, e, h⟩ := hval 15 (by omega); have e2 : some v15 = some u := e; injection e2 with e2; subst e2; exact h
            obtain rfl : v16 = .pointer (some ⟨w.heap.size, 0, none⟩) := by obtain ⟨u, e, h⟩ := hval 16 (by omega); have e2 : some v16 = some u := e; injection e2 with e2; subst e2; exact h
            obtain rfl : v17 = .slice (some ⟨b, off, none⟩) M.levers.length cap := by obtain ⟨u, e, h⟩ := hval 17 (by omega); have e2 : some v17 = some u := e; injection e2 with e2; subst e2; exact h
            obtain rfl : v18 = .int .i64 (k : Nat) := by obtain ⟨u, e, h⟩ := hval 18 (by omega); have e2 : some v18 = some u := e; injection e2 with e2; subst e2; exact h
            obtain rfl : v19 = .pointer (some ⟨b, off + k * 3, none⟩) := by obtain ⟨u, e, h⟩ := hval 19 (by omega); have e2 : some v19 = some u := e; injection e2 with e2; subst e2; exact h
            obtain rfl : v20 = .pointer (some ⟨b, off + k * 3 + 1, none⟩) := by obtain ⟨u, e, h⟩ := hval 20 (by omega); have e2 : some v20 = some u := e; injection e2 with e2; subst e2; exact h
            obtain rfl : v21 = .pointer (some ⟨b, off + k * 3 + 1 + 1, none⟩) := by obtain ⟨u, e, h⟩ := hval 21 (by omega); have e2 : some v21 = some u := e; injection e2 with e2; subst e2; exact h
            obtain rfl : v22 = .int .i64 HH := by obtain ⟨u, e, h⟩ := hval 22 (by omega); have e2 : some v22 = some u := e; injection e2 with e2; subst e2; exact h
            have k23 : v23 = .bool false := by obtain ⟨u, e, h⟩ := hval 23 (by omega); have e2 : some v23 = some u := e; injection e2 with e2; subst e2; exact h
            obtain rfl : v24 = .bool true := by obtain ⟨u, e, h⟩ := hval 24 (by omega); have e2 : some v24 = some u := e; injection e2 with e2; subst e2; exact h
            obtain rfl : v25 = .bool true := by obtain ⟨u, e, h⟩ := hval 25 (by omega); have e2 : some v25 = some u := e; injection e2 with e2; subst e2; exact h
            obtain rfl : v26 = .bool true := by obtain ⟨u, e, h⟩ := hval 26 (by omega); have e2 : some v26 = some u := e; injection e2 with e2; subst e2; exact h
            obtain rfl : v27 = undef := by obtain ⟨u, e, h⟩ := hval 27 (by omega); have e2 : some v27 = some u := e; injection e2 with e2; subst e2; exact h
            obtain rfl : v28 = undef := by obtain ⟨u, e, h⟩ := hval 28 (by omega); have e2 : some v28 = some u := e; injection e2 with e2; subst e2; exact h
            obtain rfl : v29 = undef := by obtain ⟨u, e, h⟩ := hval 29 (by omega); have e2 : some v29 = some u := e; injection e2 with e2; subst e2; exact h
            obtain rfl : v30 = undef := by obtain ⟨u, e, h⟩ := hval 30 (by omega); have e2 : some v30 = some u := e; injection e2 with e2; subst e2; exact h
            obtain rfl : v31 = undef := by obtain ⟨u, e, h⟩ := hval 31 (by omega); have e2 : some v31 = some u := e; injection e2 with e2; subst e2; exact h
            obtain rfl : v32 = undef := by obtain ⟨u, e, h⟩ := hval 32 (by omega); have e2 : some v32 = some u := e; injection e2 with e2; subst e2; exact h
            obtain rfl : v33 = undef := by obtain ⟨u, e, h⟩ := hval 33 (by omega); have e2 : some v33 = some u := e; injection e2 with e2; subst e2; exact h
            obtain rfl : v34 = undef := by obtain ⟨u, e, h⟩ := hval 34 (by omega); have e2 : some v34 = some u := e; injection e2 with e2; subst e2; exact h
            obtain rfl : v35 = .bool true := by obtain ⟨u, e, h⟩ := hval 35 (by omega); have e2 : some v35 = some u := e; injection e2 with e2; subst e2; exact h
            clear hval
            simp only [putL, Act.put, List.drop, List.setIfInBounds_toArray, List.set_cons_zero, List.set_cons_succ]
            have HB8 := Lib.hid (HW1.out.trans (hb.mono (by omega)))
            clear hb
            go_wp2_with fail
            go_ret
            exact ⟨ret_int HF.out.symm, HB8.out⟩
        | true =>
          have HWB := Lib.hid (fun W => uwithin_to h2 W)
          have h3 := wB_iff.1 h2
          by_cases h4 : HH ≤ 1000
          case neg =>
            have HF := Lib.hid (HNO.out (by
              rw [HLV.out, h1, Bool.true_and]
              refine Bool.eq_false_iff.2 (fun h => ?_)
              simp only [spanB, Bool.and_eq_true, decide_eq_true_eq] at h
              exact h4 h.2))
            have hgt : decide (1000 < HH) = true := by simp; omega
            clear h1 h2 h3
            go_wp2_with fail
            refine wp_region_facts _ 36 [51, 52, 53, 54, 55, 56, 57, 58, 59, 60, 61, 62, 63, 64, 65, 66, 67, 68, 69, 70, 71, 72, 73, 74, 75, 76, 77, 78, 79, 80, 81, 82, 83, 84, 85, 86] [isV (.pointer (some ⟨w.heap.size, 0, none⟩)), isV (.slice (some ⟨b, off, none⟩) M.levers.length cap), isV (.int .i64 (k : Nat)), isV (.pointer (some ⟨b, off + k * 3, none⟩)), isV (.pointer (some ⟨b, off + k * 3, none⟩)), isV (.int .i64 LG), ⟨fun v W => v = .bool true, fun _ _ _ h _ => h⟩, isV (.bool false), isV (.bool false), isV (.pointer (some ⟨w.heap.size, 0, none⟩)), isV (.slice (some ⟨b, off, none⟩) M.levers.length cap), isV (.int .i64 (k : Nat)), isV (.pointer (some ⟨b, off + k * 3, none⟩)), isV (.pointer (some ⟨b, off + k * 3 + 1, none⟩)), isV (.pointer (some ⟨b, off + k * 3 + 1, none⟩)), isV (.int .i64 LO), isV (.pointer (some ⟨w.heap.size, 0, none⟩)), isV (.slice (some ⟨b, off, none⟩) M.levers.length cap), isV (.int .i64 (k : Nat)), isV (.pointer (some ⟨b, off + k * 3, none⟩)), isV (.pointer (some ⟨b, off + k * 3 + 1, none⟩)), isV (.pointer (some ⟨b, off + k * 3 + 1 + 1, none⟩)), isV (.int .i64 HH), ⟨fun v W => v = .bool true, fun _ _ _ h _ => h⟩, isV (.bool false), isV (.bool false), isV (.bool false), isV (.pointer (some ⟨w.heap.size, 0, none⟩)), isV (.slice (some ⟨b, off, none⟩) M.levers.length cap), isV (.int .i64 (k : Nat)), isV (.pointer (some ⟨b, off + k * 3, none⟩)), isV (.pointer (some ⟨b, off + k * 3 + 1, none⟩)), isV (.pointer (some ⟨b, off + k * 3 + 1 + 1, none⟩)), isV (.int .i64 HH), isV (.bool true), isV (.bool true)] (by kernel_rfl) (by kernel_rfl) (by kernel_rfl) rfl (by decide) (by decide) (by simp) ?step ?rest
            case step =>
              intro i ac W d hi hd hb hoff hdep
              have z0 := (hb.cell hl0).trans HC0.out
              obtain ⟨d0, d1, d2⟩ := HT.out.below hb hlb
              have hi2 : i = 0 ∨ i = 1 ∨ i = 2 ∨ i = 3 ∨ i = 4 ∨ i = 5 ∨ i = 6 ∨ i = 7 ∨ i = 8 ∨ i = 9 ∨ i = 10 ∨ i = 11 ∨ i = 12 ∨ i = 13 ∨ i = 14 ∨ i = 15 ∨ i = 16 ∨ i = 17 ∨ i = 18 ∨ i = 19 ∨ i = 20 ∨ i = 21 ∨ i = 22 ∨ i = 23 ∨ i = 24 ∨ i = 25 ∨ i = 26 ∨ i = 27 ∨ i = 28 ∨ i = 29 ∨ i = 30 ∨ i = 31 ∨ i = 32 ∨ i = 33 ∨ i = 34 ∨ i = 35 := by omega
              rcases hi2 with rfl | rfl | rfl | rfl | rfl | rfl | rfl | rfl | rfl | rfl | rfl | rfl | rfl | rfl | rfl | rfl | rfl | rfl | rfl | rfl | rfl | rfl | rfl | rfl | rfl | rfl | rfl | rfl | rfl | rfl | rfl | rfl | rfl | rfl | rfl | rfl
              · obtain rfl : 51 = d := by simpa using hd
                have q1 : ac.tmps[1]?.getD undef = .pointer (some ⟨w.heap.size, 0, none⟩) := (eval_tmp _ _).symm.trans <| (hoff 1 (by decide)).trans rfl
                refine fact_value rfl rfl rfl (v := .pointer (some ⟨w.heap.size, 0, none⟩)) (W' := W) ?_ (Below.refl _ _) rfl
                simp only [execOp]
                go_simp
              · obtain rfl : 52 = d := by simpa using hd
                have q51 : ac.tmps[51]?.getD undef = .pointer (some ⟨w.heap.size, 0, none⟩) := (eval_tmp _ _).symm.trans (hdep 0 51 rfl rfl)
                refine fact_value rfl rfl rfl (v := .slice (some ⟨b, off, none⟩) M.levers.length cap) (W' := W) ?_ (Below.refl _ _) rfl
                simp only [execOp]
                go_simp
              · obtain rfl : 53 = d := by simpa using hd
                have q3 : ac.tmps[3]?.getD undef = .int .i64 (k : Nat) := (eval_tmp _ _).symm.trans <| (hoff 3 (by decide)).trans rfl
                refine fact_value rfl rfl rfl (v := .int .i64 (k : Nat)) (W' := W) ?_ (Below.refl _ _) rfl
                simp only [execOp]
                go_simp
              · obtain rfl : 54 = d := by simpa using hd
                have q52 : ac.tmps[52]?.getD undef = .slice (some ⟨b, off, none⟩) M.levers.length cap := (eval_tmp _ _).symm.trans (hdep 1 52 rfl rfl)
                have q53 : ac.tmps[53]?.getD undef = .int .i64 (k : Nat) := (eval_tmp _ _).symm.trans (hdep 2 53 rfl rfl)
                refine fact_value rfl rfl rfl (v := .pointer (some ⟨b, off + k * 3, none⟩)) (W' := W) ?_ (Below.refl _ _) rfl
                simp only [execOp]
                go_simp
              · obtain rfl : 55 = d := by simpa using hd
                have q54 : ac.tmps[54]?.getD undef = .pointer (some ⟨b, off + k * 3, none⟩) := (eval_tmp _ _).symm.trans (hdep 3 54 rfl rfl)
                refine fact_value rfl rfl rfl (v := .pointer (some ⟨b, off + k * 3, none⟩)) (W' := W) ?_ (Below.refl _ _) rfl
                simp only [execOp]
                go_simp
              · obtain rfl : 56 = d := by simpa using hd
                have q55 : ac.tmps[55]?.getD undef = .pointer (some ⟨b, off + k * 3, none⟩) := (eval_tmp _ _).symm.trans (hdep 4 55 rfl rfl)
                refine fact_value rfl rfl rfl (v := .int .i64 LG) (W' := W) ?_ (Below.refl _ _) rfl
                simp only [execOp]
                go_simp
              · obtain rfl : 57 = d := by simpa using hd
                have q56 : ac.tmps[56]?.getD undef = .int .i64 LG := (eval_tmp _ _).symm.trans (hdep 5 56 rfl rfl)
                refine fact_call rfl rfl rfl (f := 53) (args := #[.int .i64 LG, .int .i64 1, .int .i64 1000]) ?_ ?_
                · simp only [execOp]
                  go_simp
                · refine (HWA.out W).mono ?_
                  rintro e w' ⟨rfl, rfl⟩
                  exact ⟨_, rfl, Below.refl _ _, rfl⟩
              · obtain rfl : 58 = d := by simpa using hd
                have q57 : (ac.tmps[57]?.getD undef) = .bool true := eval_tmp ac _ ▸ hdep 6 57 rfl rfl
                refine fact_value rfl rfl rfl (v := .bool false) (W' := W) ?_ (Below.refl _ _) rfl
                simp only [execOp]
                go_simp
              · obtain rfl : 59 = d := by simpa using hd
                have q58 : ac.tmps[58]?.getD undef = .bool false := (eval_tmp _ _).symm.trans (hdep 7 58 rfl rfl)
                refine fact_value rfl rfl rfl (v := .bool false) (W' := W) ?_ (Below.refl _ _) rfl
                simp only [execOp]
                go_simp
              · obtain rfl : 60 = d := by simpa using hd
                have q1 : ac.tmps[1]?.getD undef = .pointer (some ⟨w.heap.size, 0, none⟩) := (eval_tmp _ _).symm.trans <| (hoff 1 (by decide)).trans rfl
                have q59 : ac.tmps[59]?.getD undef = .bool false := (eval_tmp _ _).symm.trans (hdep 8 59 rfl rfl)
                refine fact_value_on rfl (wants_on (t := 59) rfl rfl q59) rfl (v := .pointer (some ⟨w.heap.size, 0, none⟩)) (W' := W) ?_ (Below.refl _ _) rfl
                simp only [execOp]
                go_simp
              · obtain rfl : 61 = d := by simpa using hd
                have q60 : ac.tmps[60]?.getD undef = .pointer (some ⟨w.heap.size, 0, none⟩) := (eval_tmp _ _).symm.trans (hdep 9 60 rfl rfl)
                have q59 : ac.tmps[59]?.getD undef = .bool false := (eval_tmp _ _).symm.trans (hdep 8 59 rfl rfl)
                refine fact_value_on rfl (wants_on (t := 59) rfl rfl q59) rfl (v := .slice (some ⟨b, off, none⟩) M.levers.length cap) (W' := W) ?_ (Below.refl _ _) rfl
                simp only [execOp]
                go_simp
              · obtain rfl : 62 = d := by simpa using hd
                have q3 : ac.tmps[3]?.getD undef = .int .i64 (k : Nat) := (eval_tmp _ _).symm.trans <| (hoff 3 (by decide)).trans rfl
                have q59 : ac.tmps[59]?.getD undef = .bool false := (eval_tmp _ _).symm.trans (hdep 8 59 rfl rfl)
                refine fact_value_on rfl (wants_on (t := 59) rfl rfl q59) rfl (v := .int .i64 (k : Nat)) (W' := W) ?_ (Below.refl _ _) rfl
                simp only [execOp]
                go_simp
              · obtain rfl : 63 = d := by simpa using hd
                have q61 : ac.tmps[61]?.getD undef = .slice (some ⟨b, off, none⟩) M.levers.length cap := (eval_tmp _ _).symm.trans (hdep 10 61 rfl rfl)
                have q62 : ac.tmps[62]?.getD undef = .int .i64 (k : Nat) := (eval_tmp _ _).symm.trans (hdep 11 62 rfl rfl)
                have q59 : ac.tmps[59]?.getD undef = .bool false := (eval_tmp _ _).symm.trans (hdep 8 59 rfl rfl)
                refine fact_value_on rfl (wants_on (t := 59) rfl rfl q59) rfl (v := .pointer (some ⟨b, off + k * 3, none⟩)) (W' := W) ?_ (Below.refl _ _) rfl
                simp only [execOp]
                go_simp
              · obtain rfl : 64 = d := by simpa using hd
                have q63 : ac.tmps[63]?.getD undef = .pointer (some ⟨b, off + k * 3, none⟩) := (eval_tmp _ _).symm.trans (hdep 12 63 rfl rfl)
                have q59 : ac.tmps[59]?.getD undef = .bool false := (eval_tmp _ _).symm.trans (hdep 8 59 rfl rfl)
                refine fact_value_on rfl (wants_on (t := 59) rfl rfl q59) rfl (v := .pointer (some ⟨b, off + k * 3 + 1, none⟩)) (W' := W) ?_ (Below.refl _ _) rfl
                simp only [execOp]
                go_simp
              · obtain rfl : 65 = d := by simpa using hd
                have q64 : ac.tmps[64]?.getD undef = .pointer (some ⟨b, off + k * 3 + 1, none⟩) := (eval_tmp _ _).symm.trans (hdep 13 64 rfl rfl)
                have q59 : ac.tmps[59]?.getD undef = .bool false := (eval_tmp _ _).symm.trans (hdep 8 59 rfl rfl)
                refine fact_value_on rfl (wants_on (t := 59) rfl rfl q59) rfl (v := .pointer (some ⟨b, off + k * 3 + 1, none⟩)) (W' := W) ?_ (Below.refl _ _) rfl
                simp only [execOp]
                go_simp
              · obtain rfl : 66 = d := by simpa using hd
                have q65 : ac.tmps[65]?.getD undef = .pointer (some ⟨b, off + k * 3 + 1, none⟩) := (eval_tmp _ _).symm.trans (hdep 14 65 rfl rfl)
                have q59 : ac.tmps[59]?.getD undef = .bool false := (eval_tmp _ _).symm.trans (hdep 8 59 rfl rfl)
                refine fact_value_on rfl (wants_on (t := 59) rfl rfl q59) rfl (v := .int .i64 LO) (W' := W) ?_ (Below.refl _ _) rfl
                simp only [execOp]
                go_simp
              · obtain rfl : 67 = d := by simpa using hd
                have q1 : ac.tmps[1]?.getD undef = .pointer (some ⟨w.heap.size, 0, none⟩) := (eval_tmp _ _).symm.trans <| (hoff 1 (by decide)).trans rfl
                have q59 : ac.tmps[59]?.getD undef = .bool false := (eval_tmp _ _).symm.trans (hdep 8 59 rfl rfl)
                refine fact_value_on rfl (wants_on (t := 59) rfl rfl q59) rfl (v := .pointer (some ⟨w.heap.size, 0, none⟩)) (W' := W) ?_ (Below.refl _ _) rfl
                simp only [execOp]
                go_simp
              · obtain rfl : 68 = d := by simpa using hd
                have q67 : ac.tmps[67]?.getD undef = .pointer (some ⟨w.heap.size, 0, none⟩) := (eval_tmp _ _).symm.trans (hdep 16 67 rfl rfl)
                have q59 : ac.tmps[59]?.getD undef = .bool false := (eval_tmp _ _).symm.trans (hdep 8 59 rfl rfl)
                refine fact_value_on rfl (wants_on (t := 59) rfl rfl q59) rfl (v := .slice (some ⟨b, off, none⟩) M.levers.length cap) (W' := W) ?_ (Below.refl _ _) rfl
                simp only [execOp]
                go_simp
              · obtain rfl : 69 = d := by simpa using hd
                have q3 : ac.tmps[3]?.getD undef = .int .i64 (k : Nat) := (eval_tmp _ _).symm.trans <| (hoff 3 (by decide)).trans rfl
                have q59 : ac.tmps[59]?.getD undef = .bool false := (eval_tmp _ _).symm.trans (hdep 8 59 rfl rfl)
                refine fact_value_on rfl (wants_on (t := 59) rfl rfl q59) rfl (v := .int .i64 (k : Nat)) (W' := W) ?_ (Below.refl _ _) rfl
                simp only [execOp]
                go_simp
              · obtain rfl : 70 = d := by simpa using hd
                have q68 : ac.tmps[68]?.getD undef = .slice (some ⟨b, off, none⟩) M.levers.length cap := (eval_tmp _ _).symm.trans (hdep 17 68 rfl rfl)
                have q69 : ac.tmps[69]?.getD undef = .int .i64 (k : Nat) := (eval_tmp _ _).symm.trans (hdep 18 69 rfl rfl)
                have q59 : ac.tmps[59]?.getD undef = .bool false := (eval_tmp _ _).symm.trans (hdep 8 59 rfl rfl)
                refine fact_value_on rfl (wants_on (t := 59) rfl rfl q59) rfl (v := .pointer (some ⟨b, off + k * 3, none⟩)) (W' := W) ?_ (Below.refl _ _) rfl
                simp only [execOp]
                go_simp
              · obtain rfl : 71 = d := by simpa using hd
                have q70 : ac.tmps[70]?.getD undef = .pointer (some ⟨b, off + k * 3, none⟩) := (eval_tmp _ _).symm.trans (hdep 19 70 rfl rfl)
                have q59 : ac.tmps[59]?.getD undef = .bool false := (eval_tmp _ _).symm.trans (hdep 8 59 rfl rfl)
                refine fact_value_on rfl (wants_on (t := 59) rfl rfl q59) rfl (v := .pointer (some ⟨b, off + k * 3 + 1, none⟩)) (W' := W) ?_ (Below.refl _ _) rfl
                simp only [execOp]
                go_simp
              · obtain rfl : 72 = d := by simpa using hd
                have q71 : ac.tmps[71]?.getD undef = .pointer (some ⟨b, off + k * 3 + 1, none⟩) := (eval_tmp _ _).symm.trans (hdep 20 71 rfl rfl)
                have q59 : ac.tmps[59]?.getD undef = .bool false := (eval_tmp _ _).symm.trans (hdep 8 59 rfl rfl)
                refine fact_value_on rfl (wants_on (t := 59) rfl rfl q59) rfl (v := .pointer (some ⟨b, off + k * 3 + 1 + 1, none⟩)) (W' := W) ?_ (Below.refl _ _) rfl
                simp only [execOp]
                go_simp
              · obtain rfl : 73 = d := by simpa using hd
                have q72 : ac.tmps[72]?.getD undef = .pointer (some ⟨b, off + k * 3 + 1 + 1, none⟩) := (eval_tmp _ _).symm.trans (hdep 21 72 rfl rfl)
                have q59 : ac.tmps[59]?.getD undef = .bool false := (eval_tmp _ _).symm.trans (hdep 8 59 rfl rfl)
                refine fact_value_on rfl (wants_on (t := 59) rfl rfl q59) rfl (v := .int .i64 HH) (W' := W) ?_ (Below.refl _ _) rfl
                simp only [execOp]
                go_simp
              · obtain rfl : 74 = d := by simpa using hd
                have q66 : ac.tmps[66]?.getD undef = .int .i64 LO := (eval_tmp _ _).symm.trans (hdep 15 66 rfl rfl)
                have q73 : ac.tmps[73]?.getD undef = .int .i64 HH := (eval_tmp _ _).symm.trans (hdep 22 73 rfl rfl)
                have q59 : ac.tmps[59]?.getD undef = .bool false := (eval_tmp _ _).symm.trans (hdep 8 59 rfl rfl)
                refine fact_call_on rfl (wants_on (t := 59) rfl rfl q59) rfl (f := 53) (args := #[.int .i64 LO, .int .i64 1, .int .i64 HH]) ?_ ?_
                · simp only [execOp]
                  go_simp
                · refine (HWB.out W).mono ?_
                  rintro e w' ⟨rfl, rfl⟩
                  exact ⟨_, rfl, Below.refl _ _, rfl⟩
              · obtain rfl : 75 = d := by simpa using hd
                have q74 : (ac.tmps[74]?.getD undef) = .bool true := eval_tmp ac _ ▸ hdep 23 74 rfl rfl
                have q59 : ac.tmps[59]?.getD undef = .bool false := (eval_tmp _ _).symm.trans (hdep 8 59 rfl rfl)
                refine fact_value_on rfl (wants_on (t := 59) rfl rfl q59) rfl (v := .bool false) (W' := W) ?_ (Below.refl _ _) rfl
                simp only [execOp]
                go_simp
              · obtain rfl : 76 = d := by simpa using hd
                have q59 : ac.tmps[59]?.getD undef = .bool false := (eval_tmp _ _).symm.trans (hdep 8 59 rfl rfl)
                have q75 : ac.tmps[75]?.getD undef = .bool false := (eval_tmp _ _).symm.trans (hdep 24 75 rfl rfl)
                refine fact_value rfl rfl rfl (v := .bool false) (W' := W) ?_ (Below.refl _ _) rfl
                simp only [execOp]
                go_simp
              · obtain rfl : 77 = d := by simpa using hd
                have q76 : ac.tmps[76]?.getD undef = .bool false := (eval_tmp _ _).symm.trans (hdep 25 76 rfl rfl)
                refine fact_value rfl rfl rfl (v := .bool false) (W' := W) ?_ (Below.refl _ _) rfl
                simp only [execOp]
                go_simp
              · obtain rfl : 78 = d := by simpa using hd
                have q1 : ac.tmps[1]?.getD undef = .pointer (some ⟨w.heap.size, 0, none⟩) := (eval_tmp _ _).symm.trans <| (hoff 1 (by decide)).trans rfl
                have q77 : ac.tmps[77]?.getD undef = .bool false := (eval_tmp _ _).symm.trans (hdep 26 77 rfl rfl)
                refine fact_value_on rfl (wants_on (t := 77) rfl rfl q77) rfl (v := .pointer (some ⟨w.heap.size, 0, none⟩)) (W' := W) ?_ (Below.refl _ _) rfl
                simp only [execOp]
                go_simp
              · obtain rfl : 79 = d := by simpa using hd
                have q78 : ac.tmps[78]?.getD undef = .pointer (some ⟨w.heap.size, 0, none⟩) := (eval_tmp _ _).symm.trans (hdep 27 78 rfl rfl)
                have q77 : ac.tmps[77]?.getD undef = .bool false := (eval_tmp _ _).symm.trans (hdep 26 77 rfl rfl)
                refine fact_value_on rfl (wants_on (t := 77) rfl rfl q77) rfl (v := .slice (some ⟨b, off, none⟩) M.levers.length cap) (W' := W) ?_ (Below.refl _ _) rfl
                simp only [execOp]
                go_simp
              · obtain rfl : 80 = d := by simpa using hd
                have q3 : ac.tmps[3]?.getD undef = .int .i64 (k : Nat) := (eval_tmp _ _).symm.trans <| (hoff 3 (by decide)).trans rfl
                have q77 : ac.tmps[77]?.getD undef = .bool false := (eval_tmp _ _).symm.trans (hdep 26 77 rfl rfl)
                refine fact_value_on rfl (wants_on (t := 77) rfl rfl q77) rfl (v := .int .i64 (k : Nat)) (W' := W) ?_ (Below.refl _ _) rfl
                simp only [execOp]
                go_simp
              · obtain rfl : 81 = d := by simpa using hd
                have q79 : ac.tmps[79]?.getD undef = .slice (some ⟨b, off, none⟩) M.levers.length cap := (eval_tmp _ _).symm.trans (hdep 28 79 rfl rfl)
                have q80 : ac.tmps[80]?.getD undef = .int .i64 (k : Nat) := (eval_tmp _ _).symm.trans (hdep 29 80 rfl rfl)
                have q77 : ac.tmps[77]?.getD undef = .bool false := (eval_tmp _ _).symm.trans (hdep 26 77 rfl rfl)
                refine fact_value_on rfl (wants_on (t := 77) rfl rfl q77) rfl (v := .pointer (some ⟨b, off + k * 3, none⟩)) (W' := W) ?_ (Below.refl _ _) rfl
                simp only [execOp]
                go_simp
              · obtain rfl : 82 = d := by simpa using hd
                have q81 : ac.tmps[81]?.getD undef = .pointer (some ⟨b, off + k * 3, none⟩) := (eval_tmp _ _).symm.trans (hdep 30 81 rfl rfl)
                have q77 : ac.tmps[77]?.getD undef = .bool false := (eval_tmp _ _).symm.trans (hdep 26 77 rfl rfl)
                refine fact_value_on rfl (wants_on (t := 77) rfl rfl q77) rfl (v := .pointer (some ⟨b, off + k * 3 + 1, none⟩)) (W' := W) ?_ (Below.refl _ _) rfl
                simp only [execOp]
                go_simp
              · obtain rfl : 83 = d := by simpa using hd
                have q82 : ac.tmps[82]?.getD undef = .pointer (some ⟨b, off + k * 3 + 1, none⟩) := (eval_tmp _ _).symm.trans (hdep 31 82 rfl rfl)
                have q77 : ac.tmps[77]?.getD undef = .bool false := (eval_tmp _ _).symm.trans (hdep 26 77 rfl rfl)
                refine fact_value_on rfl (wants_on (t := 77) rfl rfl q77) rfl (v := .pointer (some ⟨b, off + k * 3 + 1 + 1, none⟩)) (W' := W) ?_ (Below.refl _ _) rfl
                simp only [execOp]
                go_simp
              · obtain rfl : 84 = d := by simpa using hd
                have q83 : ac.tmps[83]?.getD undef = .pointer (some ⟨b, off + k * 3 + 1 + 1, none⟩) := (eval_tmp _ _).symm.trans (hdep 32 83 rfl rfl)
                have q77 : ac.tmps[77]?.getD undef = .bool false := (eval_tmp _ _).symm.trans (hdep 26 77 rfl rfl)
                refine fact_value_on rfl (wants_on (t := 77) rfl rfl q77) rfl (v := .int .i64 HH) (W' := W) ?_ (Below.refl _ _) rfl
                simp only [execOp]
                go_simp
              · obtain rfl : 85 = d := by simpa using hd
                have q84 : ac.tmps[84]?.getD undef = .int .i64 HH := (eval_tmp _ _).symm.trans (hdep 33 84 rfl rfl)
                have q77 : ac.tmps[77]?.getD undef = .bool false := (eval_tmp _ _).symm.trans (hdep 26 77 rfl rfl)
                refine fact_value_on rfl (wants_on (t := 77) rfl rfl q77) rfl (v := .bool true) (W' := W) ?_ (Below.refl _ _) rfl
                simp only [execOp]
                go_simp
              · obtain rfl : 86 = d := by simpa using hd
                have q77 : ac.tmps[77]?.getD undef = .bool false := (eval_tmp _ _).symm.trans (hdep 26 77 rfl rfl)
                have q85 : ac.tmps[85]?.getD undef = .bool true := (eval_tmp _ _).symm.trans (hdep 34 85 rfl rfl)
                refine fact_value rfl rfl rfl (v := .bool true) (W' := W) ?_ (Below.refl _ _) rfl
                simp only [execOp]
                go_simp
            case rest =>
              intro vs W hvl hb hval
              obtain ⟨v0, tl0, rfl, hl0⟩ := len_more hvl
              obtain ⟨v1, tl1, rfl, hl1⟩ := len_more hl0
              obtain ⟨v2, tl2, rfl, hl2⟩ := len_more hl1
              obtain ⟨v3, tl3, rfl, hl3⟩ := len_more hl2
              obtain ⟨v4, tl4, rfl, hl4⟩ := len_more hl3
              obtain ⟨v5, tl5, rfl, hl5⟩ := len_more hl4
              obtain ⟨v6, tl6, rfl, hl6⟩ := len_more hl5
              obtain ⟨v7, tl7, rfl, hl7⟩ := len_more hl6
              obtain ⟨v8, tl8, rfl, hl8⟩ := len_more hl7
              obtain ⟨v9, tl9, rfl, hl9⟩ := len_more hl8
              obtain ⟨v10, tl10, rfl, hl10⟩ := len_more hl9
              obtain ⟨v11, tl11, rfl, hl11⟩ := len_more hl10
              obtain ⟨v12, tl12, rfl, hl12⟩ := len_more hl11
              obtain ⟨v13, tl13, rfl, hl13⟩ := len_more hl12
              obtain ⟨v14, tl14, rfl, hl14⟩ := len_more hl13
              obtain ⟨v15, tl15, rfl, hl15⟩ := len_more hl14
              obtain ⟨v16, tl16, rfl, hl16⟩ := len_more hl15
              obtain ⟨v17, tl17, rfl, hl17⟩ := len_more hl16
              obtain ⟨v18, tl18, rfl, hl18⟩ := len_more hl17
              obtain ⟨v19, tl19, rfl, hl19⟩ := len_more hl18
              obtain ⟨v20, tl20, rfl, hl20⟩ := len_more hl19
              obtain ⟨v21, tl21, rfl, hl21⟩ := len_more hl20
              obtain ⟨v22, tl22, rfl, hl22⟩ := len_more hl21
              obtain ⟨v23, tl23, rfl, hl23⟩ := len_more hl22
              obtain ⟨v24, tl24, rfl, hl24⟩ := len_more hl23
              obtain ⟨v25, tl25, rfl, hl25⟩ := len_more hl24
              obtain ⟨v26, tl26, rfl, hl26⟩ := len_more hl25
              obtain ⟨v27, tl27, rfl, hl27⟩ := len_more hl26
              obtain ⟨v28, tl28, rfl, hl28⟩ := len_more hl27
              obtain ⟨v29, tl29, rfl, hl29⟩ := len_more hl28
              obtain ⟨v30, tl30, rfl, hl30⟩ := len_more hl29
              obtain ⟨v31, tl31, rfl, hl31⟩ := len_more hl30
              obtain ⟨v32, tl32, rfl, hl32⟩ := len_more hl31
              obtain ⟨v33, tl33, rfl, hl33⟩ := len_more hl32
              obtain ⟨v34, tl34, rfl, hl34⟩ := len_more hl33
              obtain ⟨v35, tl35, rfl, hl35⟩ := len_more hl34
              obtain rfl := List.length_eq_zero_iff.1 hl35
              clear hl0 hl1 hl2 hl3 hl4 hl5 hl6 hl7 hl8 hl9 hl10 hl11 hl12 hl13 hl14 hl15 hl16 hl17 hl18 hl19 hl20 hl21 hl22 hl23 hl24 hl25 hl26 hl27 hl28 hl29 hl30 hl31 hl32 hl33 hl34
              obtain rfl : v0 = .pointer (some ⟨w.heap.size, 0, none⟩) := by obtain ⟨u, e, h⟩ := hval 0 (by omega); have e2 : some v0 = some u := e; injection e2 with e2; subst e2; exact h
              obtain rfl : v1 = .slice (some ⟨b, off, none⟩) M.levers.length cap := by obtain ⟨u, e, h⟩ := hval 1 (by omega); have e2 : some v1 = some u := e; injection e2 with e2; subst e2; exact h
              obtain rfl : v2 = .int .i64 (k : Nat) := by obtain ⟨u, e, h⟩ := hval 2 (by omega); have e2 : some v2 = some u := e; injection e2 with e2; subst e2; exact h
              obtain rfl : v3 = .pointer (some ⟨b, off + k * 3, none⟩) := by obtain ⟨u, e, h⟩ := hval 3 (by omega); have e2 : some v3 = some u := e; injection e2 with e2; subst e2; exact h
              obtain rfl : v4 = .pointer (some ⟨b, off + k * 3, none⟩) := by obtain ⟨u, e, h⟩ := hval 4 (by omega); have e2 : some v4 = some u := e; injection e2 with e2; subst e2; exact h
              obtain rfl : v5 = .int .i64 LG := by obtain ⟨u, e, h⟩ := hval 5 (by omega); have e2 : some v5 = some u := e; injection e2 with e2; subst e2; exact h
              have k6 : v6 = .bool true := by obtain ⟨u, e, h⟩ := hval 6 (by omega); have e2 : some v6 = some u := e; injection e2 with e2; subst e2; exact h
              obtain rfl : v7 = .bool false := by obtain ⟨u, e, h⟩ := hval 7 (by omega); have e2 : some v7 = some u := e; injection e2 with e2; subst e2; exact h
              obtain rfl : v8 = .bool false := by obtain ⟨u, e, h⟩ := hval 8 (by omega); have e2 : some v8 = some u := e; injection e2 with e2; subst e2; exact h
              obtain rfl : v9 = .pointer (some ⟨w.heap.size, 0, none⟩) := by obtain ⟨u, e, h⟩ := hval 9 (by omega); have e2 : some v9 = some u := e; injection e2 with e2; subst e2; exact h
              obtain rfl : v10 = .slice (some ⟨b, off, none⟩) M.levers.length cap := by obtain ⟨u, e, h⟩ := hval 10 (by omega); have e2 : some v10 = some u := e; injection e2 with e2; subst e2; exact h
              obtain rfl : v11 = .int .i64 (k : Nat) := by obtain ⟨u, e, h⟩ := hval 11 (by omega); have e2 : some v11 = some u := e; injection e2 with e2; subst e2; exact h
              obtain rfl : v12 = .pointer (some ⟨b, off + k * 3, none⟩) := by obtain ⟨u, e, h⟩ := hval 12 (by omega); have e2 : some v12 = some u := e; injection e2 with e2; subst e2; exact h
              obtain rfl : v13 = .pointer (some ⟨b, off + k * 3 + 1, none⟩) := by obtain ⟨u, e, h⟩ := hval 13 (by omega); have e2 : some v13 = some u := e; injection e2 with e2; subst e2; exact h
              obtain rfl : v14 = .pointer (some ⟨b, off + k * 3 + 1, none⟩) := by obtain ⟨u, e, h⟩ := hval 14 (by omega); have e2 : some v14 = some u := e; injection e2 with e2; subst e2; exact h
              obtain rfl : v15 = .int .i64 LO := by obtain ⟨u, e, h⟩ := hval 15 (by omega); have e2 : some v15 = some u := e; injection e2 with e2; subst e2; exact h
              obtain rfl : v16 = .pointer (some ⟨w.heap.size, 0, none⟩) := by obtain ⟨u, e, h⟩ := hval 16 (by omega); have e2 : some v16 = some u := e; injection e2 with e2; subst e2; exact h
              obtain rfl : v17 = .slice (some ⟨b, off, none⟩) M.levers.length cap := by obtain ⟨u, e, h⟩ := hval 17 (by omega); have e2 : some v17 = some u := e; injection e2 with e2; subst e2; exact h
              obtain rfl : v18 = .int .i64 (k : Nat) := by obtain ⟨u, e, h⟩ := hval 18 (by omega); have e2 : some v18 = some u := e; injection e2 with e2; subst e2; exact h
              obtain rfl : v19 = .pointer (some ⟨b, off + k * 3, none⟩) := by obtain ⟨u, e, h⟩ := hval 19 (by omega); have e2 : some v19 = some u := e; injection e2 with e2; subst e2; exact h
              obtain rfl : v20 = .pointer (some ⟨b, off + k * 3 + 1, none⟩) := by obtain ⟨u, e, h⟩ := hval 20 (by omega); have e2 : some v20 = some u := e; injection e2 with e2; subst e2; exact h
              obtain rfl : v21 = .pointer (some ⟨b, off + k * 3 + 1 + 1, none⟩) := by obtain ⟨u, e, h⟩ := hval 21 (by omega); have e2 : some v21 = some u := e; injection e2 with e2; subst e2; exact h
              obtain rfl : v22 = .int .i64 HH := by obtain ⟨u, e, h⟩ := hval 22 (by omega); have e2 : some v22 = some u := e; injection e2 with e2; subst e2; exact h
              have k23 : v23 = .bool true := by obtain ⟨u, e, h⟩ := hval 23 (by omega); have e2 : some v23 = some u := e; injection e2 with e2; subst e2; exact h
              obtain rfl : v24 = .bool false := by obtain ⟨u, e, h⟩ := hval 24 (by omega); have e2 : some v24 = some u := e; injection e2 with e2; subst e2; exact h
              obtain rfl : v25 = .bool false := by obtain ⟨u, e, h⟩ := hval 25 (by omega); have e2 : some v25 = some u := e; injection e2 with e2; subst e2; exact h
              obtain rfl : v26 = .bool false := by obtain ⟨u, e, h⟩ := hval 26 (by omega); have e2 : some v26 = some u := e; injection e2 with e2; subst e2; exact h
              obtain rfl : v27 = .pointer (some ⟨w.heap.size, 0, none⟩) := by obtain ⟨u, e, h⟩ := hval 27 (by omega); have e2 : some v27 = some u := e; injection e2 with e2; subst e2; exact h
              obtain rfl : v28 = .slice (some ⟨b, off, none⟩) M.levers.length cap := by obtain ⟨u, e, h⟩ := hval 28 (by omega); have e2 : some v28 = some u := e; injection e2 with e2; subst e2; exact h
              obtain rfl : v29 = .int .i64 (k : Nat) := by obtain ⟨u, e, h⟩ := hval 29 (by omega); have e2 : some v29 = some u := e; injection e2 with e2; subst e2; exact h
              obtain rfl : v30 = .pointer (some ⟨b, off + k * 3, none⟩) := by obtain ⟨u, e, h⟩ := hval 30 (by omega); have e2 : some v30 = some u := e; injection e2 with e2; subst e2; exact h
              obtain rfl : v31 = .pointer (some ⟨b, off + k * 3 + 1, none⟩) := by obtain ⟨u, e, h⟩ := hval 31 (by omega); have e2 : some v31 = some u := e; injection e2 with e2; subst e2; exact h
              obtain rfl : v32 = .pointer (some ⟨b, off + k * 3 + 1 + 1, none⟩) := by obtain ⟨u, e, h⟩ := hval 32 (by omega); have e2 : some v32 = some u := e; injection e2 with e2; subst e2; exact h
              obtain rfl : v33 = .int .i64 HH := by obtain ⟨u, e, h⟩ := hval 33 (by omega); have e2 : some v33 = some u := e; injection e2 with e2; subst e2; exact h
              obtain rfl : v34 = .bool true := by obtain ⟨u, e, h⟩ := hval 34 (by omega); have e2 : some v34 = some u := e; injection e2 with e2; subst e2; exact h
              obtain rfl : v35 = .bool true := by obtain ⟨u, e, h⟩ := hval 35 (by omega); have e2 : some v35 = some u := e; injection e2 with e2; subst e2; exact h
              clear hval
              simp only [putL, Act.put, List.drop, List.setIfInBounds_toArray, List.set_cons_zero, List.set_cons_succ]
              have HB8 := Lib.hid (HW1.out.trans (hb.mono (by omega)))
              clear hb
              go_wp2_with fail
              go_ret
              exact ⟨ret_int HF.out.symm, HB8.out⟩
          have hok := HST.out (show leverB (lnth M.levers k) = true by rw [HLV.out, h1]; simp only [spanB, decide_eq_true h3.1, decide_eq_true h3.2, decide_eq_true h4]; rfl)
          have HOK := Lib.hid hok
          have hgt : decide (1000 < HH) = false := by simp; omega
          clear h1 h2 h3 hok
          go_wp2_with fail
          refine wp_region_facts _ 36 [51, 52, 53, 54, 55, 56, 57, 58, 59, 60, 61, 62, 63, 64, 65, 66, 67, 68, 69, 70, 71, 72, 73, 74, 75, 76, 77, 78, 79, 80, 81, 82, 83, 84, 85, 86] [isV (.pointer (some ⟨w.heap.size, 0, none⟩)), isV (.slice (some ⟨b, off, none⟩) M.levers.length cap), isV (.int .i64 (k : Nat)), isV (.pointer (some ⟨b, off + k * 3, none⟩)), isV (.pointer (some ⟨b, off + k * 3, none⟩)), isV (.int .i64 LG), ⟨fun v W => v = .bool true, fun _ _ _ h _ => h⟩, isV (.bool false), isV (.bool false), isV (.pointer (some ⟨w.heap.size, 0, none⟩)), isV (.slice (some ⟨b, off, none⟩) M.levers.length cap), isV (.int .i64 (k : Nat)), isV (.pointer (some ⟨b, off + k * 3, none⟩)), isV (.pointer (some ⟨b, off + k * 3 + 1, none⟩)), isV (.pointer (some ⟨b, off + k * 3 + 1, none⟩)), isV (.int .i64 LO), isV (.pointer (some ⟨w.heap.size, 0, none⟩)), isV (.slice (some ⟨b, off, none⟩) M.levers.length cap), isV (.int .i64 (k : Nat)), isV (.pointer (some ⟨b, off + k * 3, none⟩)), isV (.pointer (some ⟨b, off + k * 3 + 1, none⟩)), isV (.pointer (some ⟨b, off + k * 3 + 1 + 1, none⟩)), isV (.int .i64 HH), ⟨fun v W => v = .bool true, fun _ _ _ h _ => h⟩, isV (.bool false), isV (.bool false), isV (.bool false), isV (.pointer (some ⟨w.heap.size, 0, none⟩)), isV (.slice (some ⟨b, off, none⟩) M.levers.length cap), isV (.int .i64 (k : Nat)), isV (.pointer (some ⟨b, off + k * 3, none⟩)), isV (.pointer (some ⟨b, off + k * 3 + 1, none⟩)), isV (.pointer (some ⟨b, off + k * 3 + 1 + 1, none⟩)), isV (.int .i64 HH), isV (.bool false), isV (.bool false)] (by kernel_rfl) (by kernel_rfl) (by kernel_rfl) rfl (by decide) (by decide) (by simp) ?step ?rest
          case step =>
            intro i ac W d hi hd hb hoff hdep
            have z0 := (hb.cell hl0).trans HC0.out
            obtain ⟨d0, d1, d2⟩ := HT.out.below hb hlb
            have hi2 : i = 0 ∨ i = 1 ∨ i = 2 ∨ i = 3 ∨ i = 4 ∨ i = 5 ∨ i = 6 ∨ i = 7 ∨ i = 8 ∨ i = 9 ∨ i = 10 ∨ i = 11 ∨ i = 12 ∨ i = 13 ∨ i = 14 ∨ i = 15 ∨ i = 16 ∨ i = 17 ∨ i = 18 ∨ i = 19 ∨ i = 20 ∨ i = 21 ∨ i = 22 ∨ i = 23 ∨ i = 24 ∨ i = 25 ∨ i = 26 ∨ i = 27 ∨ i = 28 ∨ i = 29 ∨ i = 30 ∨ i = 31 ∨ i = 32 ∨ i = 33 ∨ i = 34 ∨ i = 35 := by omega
            rcases hi2 with rfl | rfl | rfl | rfl | rfl | rfl | rfl | rfl | rfl | rfl | rfl | rfl | rfl | rfl | rfl | rfl | rfl | rfl | rfl | rfl | rfl | rfl | rfl | rfl | rfl | rfl | rfl | rfl | rfl | rfl | rfl | rfl | rfl | rfl | rfl | rfl
            · obtain rfl : 51 = d := by simpa using hd
              have q1 : ac.tmps[1]?.getD undef = .pointer (some ⟨w.heap.size, 0, none⟩) := (eval_tmp _ _).symm.trans <| (hoff 1 (by decide)).trans rfl
              refine fact_value rfl rfl rfl (v := .pointer (some ⟨w.heap.size, 0, none⟩)) (W' := W) ?_ (Below.refl _ _) rfl
              simp only [execOp]
              go_simp
            · obtain rfl : 52 = d := by simpa using hd
              have q51 : ac.tmps[51]?.getD undef = .pointer (some ⟨w.heap.size, 0, none⟩) := (eval_tmp _ _).symm.trans (hdep 0 51 rfl rfl)
              refine fact_value rfl rfl rfl (v := .slice (some ⟨b, off, none⟩) M.levers.length cap) (W' := W) ?_ (Below.refl _ _) rfl
              simp only [execOp]
              go_simp
            · obtain rfl : 53 = d := by simpa using hd
              have q3 : ac.tmps[3]?.getD undef = .int .i64 (k : Nat) := (eval_tmp _ _).symm.trans <| (hoff 3 (by decide)).trans rfl
              refine fact_value rfl rfl rfl (v := .int .i64 (k : Nat)) (W' := W) ?_ (Below.refl _ _) rfl
              simp only [execOp]
              go_simp
            · obtain rfl : 54 = d := by simpa using hd
              have q52 : ac.tmps[52]?.getD undef = .slice (some ⟨b, off, none⟩) M.levers.length cap := (eval_tmp _ _).symm.trans (hdep 1 52 rfl rfl)
              have q53 : ac.tmps[53]?.getD undef = .int .i64 (k : Nat) := (eval_tmp _ _).symm.trans (hdep 2 53 rfl rfl)
              refine fact_value rfl rfl rfl (v := .pointer (some ⟨b, off + k * 3, none⟩)) (W' := W) ?_ (Below.refl _ _) rfl
              simp only [execOp]
              go_simp
            · obtain rfl : 55 = d := by simpa using hd
              have q54 : ac.tmps[54]?.getD undef = .pointer (some ⟨b, off + k * 3, none⟩) := (eval_tmp _ _).symm.trans (hdep 3 54 rfl rfl)
              refine fact_value rfl rfl rfl (v := .pointer (some ⟨b, off + k * 3, none⟩)) (W' := W) ?_ (Below.refl _ _) rfl
              simp only [execOp]
              go_simp
            · obtain rfl : 56 = d := by simpa using hd
              have q55 : ac.tmps[55]?.getD undef = .pointer (some ⟨b, off + k * 3, none⟩) := (eval_tmp _ _).symm.trans (hdep 4 55 rfl rfl)
              refine fact_value rfl rfl rfl (v := .int .i64 LG) (W' := W) ?_ (Below.refl _ _) rfl
              simp only [execOp]
              go_simp
            · obtain rfl : 57 = d := by simpa using hd
              have q56 : ac.tmps[56]?.getD undef = .int .i64 LG := (eval_tmp _ _).symm.trans (hdep 5 56 rfl rfl)
              refine fact_call rfl rfl rfl (f := 53) (args := #[.int .i64 LG, .int .i64 1, .int .i64 1000]) ?_ ?_
              · simp only [execOp]
                go_simp
              · refine (HWA.out W).mono ?_
                rintro e w' ⟨rfl, rfl⟩
                exact ⟨_, rfl, Below.refl _ _, rfl⟩
            · obtain rfl : 58 = d := by simpa using hd
              have q57 : (ac.tmps[57]?.getD undef) = .bool true := eval_tmp ac _ ▸ hdep 6 57 rfl rfl
              refine fact_value rfl rfl rfl (v := .bool false) (W' := W) ?_ (Below.refl _ _) rfl
              simp only [execOp]
              go_simp
            · obtain rfl : 59 = d := by simpa using hd
              have q58 : ac.tmps[58]?.getD undef = .bool false := (eval_tmp _ _).symm.trans (hdep 7 58 rfl rfl)
              refine fact_value rfl rfl rfl (v := .bool false) (W' := W) ?_ (Below.refl _ _) rfl
              simp only [execOp]
              go_simp
            · obtain rfl : 60 = d := by simpa using hd
              have q1 : ac.tmps[1]?.getD undef = .pointer (some ⟨w.heap.size, 0, none⟩) := (eval_tmp _ _).symm.trans <| (hoff 1 (by decide)).trans rfl
              have q59 : ac.tmps[59]?.getD undef = .bool false := (eval_tmp _ _).symm.trans (hdep 8 59 rfl rfl)
              refine fact_value_on rfl (wants_on (t := 59) rfl rfl q59) rfl (v := .pointer (some ⟨w.heap.size, 0, none⟩)) (W' := W) ?_ (Below.refl _ _) rfl
              simp only [execOp]
              go_simp
            · obtain rfl : 61 = d := by simpa using hd
              have q60 : ac.tmps[60]?.getD undef = .pointer (some ⟨w.heap.size, 0, none⟩) := (eval_tmp _ _).symm.trans (hdep 9 60 rfl rfl)
              have q59 : ac.tmps[59]?.getD undef = .bool false := (eval_tmp _ _).symm.trans (hdep 8 59 rfl rfl)
              refine fact_value_on rfl (wants_on (t := 59) rfl rfl q59) rfl (v := .slice (some ⟨b, off, none⟩) M.levers.length cap) (W' := W) ?_ (Below.refl _ _) rfl
              simp only [execOp]
              go_simp
            · obtain rfl : 62 = d := by simpa using hd
              have q3 : ac.tmps[3]?.getD undef = .int .i64 (k : Nat) := (eval_tmp _ _).symm.trans <| (hoff 3 (by decide)).trans rfl
              have q59 : ac.tmps[59]?.getD undef = .bool false := (eval_tmp _ _).symm.trans (hdep 8 59 rfl rfl)
              refine fact_value_on rfl (wants_on (t := 59) rfl rfl q59) rfl (v := .int .i64 (k : Nat)) (W' := W) ?_ (Below.refl _ _) rfl
              simp only [execOp]
              go_simp
            · obtain rfl : 63 = d := by simpa using hd
              have q61 : ac.tmps[61]?.getD undef = .slice (some ⟨b, off, none⟩) M.levers.length cap := (eval_tmp _ _).symm.trans (hdep 10 61 rfl rfl)
              have q62 : ac.tmps[62]?.getD undef = .int .i64 (k : Nat) := (eval_tmp _ _).symm.trans (hdep 11 62 rfl rfl)
              have q59 : ac.tmps[59]?.getD undef = .bool false := (eval_tmp _ _).symm.trans (hdep 8 59 rfl rfl)
              refine fact_value_on rfl (wants_on (t := 59) rfl rfl q59) rfl (v := .pointer (some ⟨b, off + k * 3, none⟩)) (W' := W) ?_ (Below.refl _ _) rfl
              simp only [execOp]
              go_simp
            · obtain rfl : 64 = d := by simpa using hd
              have q63 : ac.tmps[63]?.getD undef = .pointer (some ⟨b, off + k * 3, none⟩) := (eval_tmp _ _).symm.trans (hdep 12 63 rfl rfl)
              have q59 : ac.tmps[59]?.getD undef = .bool false := (eval_tmp _ _).symm.trans (hdep 8 59 rfl rfl)
              refine fact_value_on rfl (wants_on (t := 59) rfl rfl q59) rfl (v := .pointer (some ⟨b, off + k * 3 + 1, none⟩)) (W' := W) ?_ (Below.refl _ _) rfl
              simp only [execOp]
              go_simp
            · obtain rfl : 65 = d := by simpa using hd
              have q64 : ac.tmps[64]?.getD undef = .pointer (some ⟨b, off + k * 3 + 1, none⟩) := (eval_tmp _ _).symm.trans (hdep 13 64 rfl rfl)
              have q59 : ac.tmps[59]?.getD undef = .bool false := (eval_tmp _ _).symm.trans (hdep 8 59 rfl rfl)
              refine fact_value_on rfl (wants_on (t := 59) rfl rfl q59) rfl (v := .pointer (some ⟨b, off + k * 3 + 1, none⟩)) (W' := W) ?_ (Below.refl _ _) rfl
              simp only [execOp]
              go_simp
            · obtain rfl : 66 = d := by simpa using hd
              have q65 : ac.tmps[65]?.getD undef = .pointer (some ⟨b, off + k * 3 + 1, none⟩) := (eval_tmp _ _).symm.trans (hdep 14 65 rfl rfl)
              have q59 : ac.tmps[59]?.getD undef = .bool false := (eval_tmp _ _).symm.trans (hdep 8 59 rfl rfl)
              refine fact_value_on rfl (wants_on (t := 59) rfl rfl q59) rfl (v := .int .i64 LO) (W' := W) ?_ (Below.refl _ _) rfl
              simp only [execOp]
              go_simp
            · obtain rfl : 67 = d := by simpa using hd
              have q1 : ac.tmps[1]?.getD undef = .pointer (some ⟨w.heap.size, 0, none⟩) := (eval_tmp _ _).symm.trans <| (hoff 1 (by decide)).trans rfl
              have q59 : ac.tmps[59]?.getD undef = .bool false := (eval_tmp _ _).symm.trans (hdep 8 59 rfl rfl)
              refine fact_value_on rfl (wants_on (t := 59) rfl rfl q59) rfl (v := .pointer (some ⟨w.heap.size, 0, none⟩)) (W' := W) ?_ (Below.refl _ _) rfl
              simp only [execOp]
              go_simp
            · obtain rfl : 68 = d := by simpa using hd
              have q67 : ac.tmps[67]?.getD undef = .pointer (some ⟨w.heap.size, 0, none⟩) := (eval_tmp _ _).symm.trans (hdep 16 67 rfl rfl)
              have q59 : ac.tmps[59]?.getD undef = .bool false := (eval_tmp _ _).symm.trans (hdep 8 59 rfl rfl)
              refine fact_value_on rfl (wants_on (t := 59) rfl rfl q59) rfl (v := .slice (some ⟨b, off, none⟩) M.levers.length cap) (W' := W) ?_ (Below.refl _ _) rfl
              simp only [execOp]
              go_simp
            · obtain rfl : 69 = d := by simpa using hd
              have q3 : ac.tmps[3]?.getD undef = .int .i64 (k : Nat) := (eval_tmp _ _).symm.trans <| (hoff 3 (by decide)).trans rfl
              have q59 : ac.tmps[59]?.getD undef = .bool false := (eval_tmp _ _).symm.trans (hdep 8 59 rfl rfl)
              refine fact_value_on rfl (wants_on (t := 59) rfl rfl q59) rfl (v := .int .i64 (k : Nat)) (W' := W) ?_ (Below.refl _ _) rfl
              simp only [execOp]
              go_simp
            · obtain rfl : 70 = d := by simpa using hd
              have q68 : ac.tmps[68]?.getD undef = .slice (some ⟨b, off, none⟩) M.levers.length cap := (eval_tmp _ _).symm.trans (hdep 17 68 rfl rfl)
              have q69 : ac.tmps[69]?.getD undef = .int .i64 (k : Nat) := (eval_tmp _ _).symm.trans (hdep 18 69 rfl rfl)
              have q59 : ac.tmps[59]?.getD undef = .bool false := (eval_tmp _ _).symm.trans (hdep 8 59 rfl rfl)
              refine fact_value_on rfl (wants_on (t := 59) rfl rfl q59) rfl (v := .pointer (some ⟨b, off + k * 3, none⟩)) (W' := W) ?_ (Below.refl _ _) rfl
              simp only [execOp]
              go_simp
            · obtain rfl : 71 = d := by simpa using hd
              have q70 : ac.tmps[70]?.getD undef = .pointer (some ⟨b, off + k * 3, none⟩) := (eval_tmp _ _).symm.trans (hdep 19 70 rfl rfl)
              have q59 : ac.tmps[59]?.getD undef = .bool false := (eval_tmp _ _).symm.trans (hdep 8 59 rfl rfl)
              refine fact_value_on rfl (wants_on (t := 59) rfl rfl q59) rfl (v := .pointer (some ⟨b, off + k * 3 + 1, none⟩)) (W' := W) ?_ (Below.refl _ _) rfl
              simp only [execOp]
              go_simp
            · obtain rfl : 72 = d := by simpa using hd
              have q71 : ac.tmps[71]?.getD undef = .pointer (some ⟨b, off + k * 3 + 1, none⟩) := (eval_tmp _ _).symm.trans (hdep 20 71 rfl rfl)
              have q59 : ac.tmps[59]?.getD undef = .bool false := (eval_tmp _ _).symm.trans (hdep 8 59 rfl rfl)
              refine fact_value_on rfl (wants_on (t := 59) rfl rfl q59) rfl (v := .pointer (some ⟨b, off + k * 3 + 1 + 1, none⟩)) (W' := W) ?_ (Below.refl _ _) rfl
              simp only [execOp]
              go_simp
            · obtain rfl : 73 = d := by simpa using hd
              have q72 : ac.tmps[72]?.getD undef = .pointer (some ⟨b, off + k * 3 + 1 + 1, none⟩) := (eval_tmp _ _).symm.trans (hdep 21 72 rfl rfl)
              have q59 : ac.tmps[59]?.getD undef = .bool false := (eval_tmp _ _).symm.trans (hdep 8 59 rfl rfl)
              refine fact_value_on rfl (wants_on (t := 59) rfl rfl q59) rfl (v := .int .i64 HH) (W' := W) ?_ (Below.refl _ _) rfl
              simp only [execOp]
              go_simp
            · obtain rfl : 74 = d := by simpa using hd
              have q66 : ac.tmps[66]?.getD undef = .int .i64 LO := (eval_tmp _ _).symm.trans (hdep 15 66 rfl rfl)
              have q73 : ac.tmps[73]?.getD undef = .int .i64 HH := (eval_tmp _ _).symm.trans (hdep 22 73 rfl rfl)
              have q59 : ac.tmps[59]?.getD undef = .bool false := (eval_tmp _ _).symm.trans (hdep 8 59 rfl rfl)
              refine fact_call_on rfl (wants_on (t := 59) rfl rfl q59) rfl (f := 53) (args := #[.int .i64 LO, .int .i64 1, .int .i64 HH]) ?_ ?_
              · simp only [execOp]
                go_simp
              · refine (HWB.out W).mono ?_
                rintro e w' ⟨rfl, rfl⟩
                exact ⟨_, rfl, Below.refl _ _, rfl⟩
            · obtain rfl : 75 = d := by simpa using hd
              have q74 : (ac.tmps[74]?.getD undef) = .bool true := eval_tmp ac _ ▸ hdep 23 74 rfl rfl
              have q59 : ac.tmps[59]?.getD undef = .bool false := (eval_tmp _ _).symm.trans (hdep 8 59 rfl rfl)
              refine fact_value_on rfl (wants_on (t := 59) rfl rfl q59) rfl (v := .bool false) (W' := W) ?_ (Below.refl _ _) rfl
              simp only [execOp]
              go_simp
            · obtain rfl : 76 = d := by simpa using hd
              have q59 : ac.tmps[59]?.getD undef = .bool false := (eval_tmp _ _).symm.trans (hdep 8 59 rfl rfl)
              have q75 : ac.tmps[75]?.getD undef = .bool false := (eval_tmp _ _).symm.trans (hdep 24 75 rfl rfl)
              refine fact_value rfl rfl rfl (v := .bool false) (W' := W) ?_ (Below.refl _ _) rfl
              simp only [execOp]
              go_simp
            · obtain rfl : 77 = d := by simpa using hd
              have q76 : ac.tmps[76]?.getD undef = .bool false := (eval_tmp _ _).symm.trans (hdep 25 76 rfl rfl)
              refine fact_value rfl rfl rfl (v := .bool false) (W' := W) ?_ (Below.refl _ _) rfl
              simp only [execOp]
              go_simp
            · obtain rfl : 78 = d := by simpa using hd
              have q1 : ac.tmps[1]?.getD undef = .pointer (some ⟨w.heap.size, 0, none⟩) := (eval_tmp _ _).symm.trans <| (hoff 1 (by decide)).trans rfl
              have q77 : ac.tmps[77]?.getD undef = .bool false := (eval_tmp _ _).symm.trans (hdep 26 77 rfl rfl)
              refine fact_value_on rfl (wants_on (t := 77) rfl rfl q77) rfl (v := .pointer (some ⟨w.heap.size, 0, none⟩)) (W' := W) ?_ (Below.refl _ _) rfl
              simp only [execOp]
              go_simp
            · obtain rfl : 79 = d := by simpa using hd
              have q78 : ac.tmps[78]?.getD undef = .pointer (some ⟨w.heap.size, 0, none⟩) := (eval_tmp _ _).symm.trans (hdep 27 78 rfl rfl)
              have q77 : ac.tmps[77]?.getD undef = .bool false := (eval_tmp _ _).symm.trans (hdep 26 77 rfl rfl)
              refine fact_value_on rfl (wants_on (t := 77) rfl rfl q77) rfl (v := .slice (some ⟨b, off, none⟩) M.levers.length cap) (W' := W) ?_ (Below.refl _ _) rfl
              simp only [execOp]
              go_simp
            · obtain rfl : 80 = d := by simpa using hd
              have q3 : ac.tmps[3]?.getD undef = .int .i64 (k : Nat) := (eval_tmp _ _).symm.trans <| (hoff 3 (by decide)).trans rfl
              have q77 : ac.tmps[77]?.getD undef = .bool false := (eval_tmp _ _).symm.trans (hdep 26 77 rfl rfl)
              refine fact_value_on rfl (wants_on (t := 77) rfl rfl q77) rfl (v := .int .i64 (k : Nat)) (W' := W) ?_ (Below.refl _ _) rfl
              simp only [execOp]
              go_simp
            · obtain rfl : 81 = d := by simpa using hd
              have q79 : ac.tmps[79]?.getD undef = .slice (some ⟨b, off, none⟩) M.levers.length cap := (eval_tmp _ _).symm.trans (hdep 28 79 rfl rfl)
              have q80 : ac.tmps[80]?.getD undef = .int .i64 (k : Nat) := (eval_tmp _ _).symm.trans (hdep 29 80 rfl rfl)
              have q77 : ac.tmps[77]?.getD undef = .bool false := (eval_tmp _ _).symm.trans (hdep 26 77 rfl rfl)
              refine fact_value_on rfl (wants_on (t := 77) rfl rfl q77) rfl (v := .pointer (some ⟨b, off + k * 3, none⟩)) (W' := W) ?_ (Below.refl _ _) rfl
              simp only [execOp]
              go_simp
            · obtain rfl : 82 = d := by simpa using hd
              have q81 : ac.tmps[81]?.getD undef = .pointer (some ⟨b, off + k * 3, none⟩) := (eval_tmp _ _).symm.trans (hdep 30 81 rfl rfl)
              have q77 : ac.tmps[77]?.getD undef = .bool false := (eval_tmp _ _).symm.trans (hdep 26 77 rfl rfl)
              refine fact_value_on rfl (wants_on (t := 77) rfl rfl q77) rfl (v := .pointer (some ⟨b, off + k * 3 + 1, none⟩)) (W' := W) ?_ (Below.refl _ _) rfl
              simp only [execOp]
              go_simp
            · obtain rfl : 83 = d := by simpa using hd
              have q82 : ac.tmps[82]?.getD undef = .pointer (some ⟨b, off + k * 3 + 1, none⟩) := (eval_tmp _ _).symm.trans (hdep 31 82 rfl rfl)
              have q77 : ac.tmps[77]?.getD undef = .bool false := (eval_tmp _ _).symm.trans (hdep 26 77 rfl rfl)
              refine fact_value_on rfl (wants_on (t := 77) rfl rfl q77) rfl (v := .pointer (some ⟨b, off + k * 3 + 1 + 1, none⟩)) (W' := W) ?_ (Below.refl _ _) rfl
              simp only [execOp]
              go_simp
            · obtain rfl : 84 = d := by simpa using hd
              have q83 : ac.tmps[83]?.getD undef = .pointer (some ⟨b, off + k * 3 + 1 + 1, none⟩) := (eval_tmp _ _).symm.trans (hdep 32 83 rfl rfl)
              have q77 : ac.tmps[77]?.getD undef = .bool false := (eval_tmp _ _).symm.trans (hdep 26 77 rfl rfl)
              refine fact_value_on rfl (wants_on (t := 77) rfl rfl q77) rfl (v := .int .i64 HH) (W' := W) ?_ (Below.refl _ _) rfl
              simp only [execOp]
              go_simp
            · obtain rfl : 85 = d := by simpa using hd
              have q84 : ac.tmps[84]?.getD undef = .int .i64 HH := (eval_tmp _ _).symm.trans (hdep 33 84 rfl rfl)
              have q77 : ac.tmps[77]?.getD undef = .bool false := (eval_tmp _ _).symm.trans (hdep 26 77 rfl rfl)
              refine fact_value_on rfl (wants_on (t := 77) rfl rfl q77) rfl (v := .bool false) (W' := W) ?_ (Below.refl _ _) rfl
              simp only [execOp]
              go_simp
            · obtain rfl : 86 = d := by simpa using hd
              have q77 : ac.tmps[77]?.getD undef = .bool false := (eval_tmp _ _).symm.trans (hdep 26 77 rfl rfl)
              have q85 : ac.tmps[85]?.getD undef = .bool false := (eval_tmp _ _).symm.trans (hdep 34 85 rfl rfl)
              refine fact_value rfl rfl rfl (v := .bool false) (W' := W) ?_ (Below.refl _ _) rfl
              simp only [execOp]
              go_simp
          case rest =>
            intro vs W hvl hb hval
            obtain ⟨v0, tl0, rfl, hl0⟩ := len_more hvl
            obtain ⟨v1, tl1, rfl, hl1⟩ := len_more hl0
            obtain ⟨v2, tl2, rfl, hl2⟩ := len_more hl1
            obtain ⟨v3, tl3, rfl, hl3⟩ := len_more hl2
            obtain ⟨v4, tl4, rfl, hl4⟩ := len_more hl3
            obtain ⟨v5, tl5, rfl, hl5⟩ := len_more hl4
            obtain ⟨v6, tl6, rfl, hl6⟩ := len_more hl5
            obtain ⟨v7, tl7, rfl, hl7⟩ := len_more hl6
            obtain ⟨v8, tl8, rfl, hl8⟩ := len_more hl7
            obtain ⟨v9, tl9, rfl, hl9⟩ := len_more hl8
            obtain ⟨v10, tl10, rfl, hl10⟩ := len_more hl9
            obtain ⟨v11, tl11, rfl, hl11⟩ := len_more hl10
            obtain ⟨v12, tl12, rfl, hl12⟩ := len_more hl11
            obtain ⟨v13, tl13, rfl, hl13⟩ := len_more hl12
            obtain ⟨v14, tl14, rfl, hl14⟩ := len_more hl13
            obtain ⟨v15, tl15, rfl, hl15⟩ := len_more hl14
            obtain ⟨v16, tl16, rfl, hl16⟩ := len_more hl15
            obtain ⟨v17, tl17, rfl, hl17⟩ := len_more hl16
            obtain ⟨v18, tl18, rfl, hl18⟩ := len_more hl17
            obtain ⟨v19, tl19, rfl, hl19⟩ := len_more hl18
            obtain ⟨v20, tl20, rfl, hl20⟩ := len_more hl19
            obtain ⟨v21, tl21, rfl, hl21⟩ := len_more hl20
            obtain ⟨v22, tl22, rfl, hl22⟩ := len_more hl21
            obtain ⟨v23, tl23, rfl, hl23⟩ := len_more hl22
            obtain ⟨v24, tl24, rfl, hl24⟩ := len_more hl23
            obtain ⟨v25, tl25, rfl, hl25⟩ := len_more hl24
            obtain ⟨v26, tl26, rfl, hl26⟩ := len_more hl25
            obtain ⟨v27, tl27, rfl, hl27⟩ := len_more hl26
            obtain ⟨v28, tl28, rfl, hl28⟩ := len_more hl27
            obtain ⟨v29, tl29, rfl, hl29⟩ := len_more hl28
            obtain ⟨v30, tl30, rfl, hl30⟩ := len_more hl29
            obtain ⟨v31, tl31, rfl, hl31⟩ := len_more hl30
            obtain ⟨v32, tl32, rfl, hl32⟩ := len_more hl31
            obtain ⟨v33, tl33, rfl, hl33⟩ := len_more hl32
            obtain ⟨v34, tl34, rfl, hl34⟩ := len_more hl33
            obtain ⟨v35, tl35, rfl, hl35⟩ := len_more hl34
            obtain rfl := List.length_eq_zero_iff.1 hl35
            clear hl0 hl1 hl2 hl3 hl4 hl5 hl6 hl7 hl8 hl9 hl10 hl11 hl12 hl13 hl14 hl15 hl16 hl17 hl18 hl19 hl20 hl21 hl22 hl23 hl24 hl25 hl26 hl27 hl28 hl29 hl30 hl31 hl32 hl33 hl34
            obtain rfl : v0 = .pointer (some ⟨w.heap.size, 0, none⟩) := by obtain ⟨u, e, h⟩ := hval 0 (by omega); have e2 : some v0 = some u := e; injection e2 with e2; subst e2; exact h
            obtain rfl : v1 = .slice (some ⟨b, off, none⟩) M.levers.length cap := by obtain ⟨u, e, h⟩ := hval 1 (by omega); have e2 : some v1 = some u := e; injection e2 with e2; subst e2; exact h
            obtain rfl : v2 = .int .i64 (k : Nat) := by obtain ⟨u, e, h⟩ := hval 2 (by omega); have e2 : some v2 = some u := e; injection e2 with e2; subst e2; exact h
            obtain rfl : v3 = .pointer (some ⟨b, off + k * 3, none⟩) := by obtain ⟨u, e, h⟩ := hval 3 (by omega); have e2 : some v3 = some u := e; injection e2 with e2; subst e2; exact h
            obtain rfl : v4 = .pointer (some ⟨b, off + k * 3, none⟩) := by obtain ⟨u, e, h⟩ := hval 4 (by omega); have e2 : some v4 = some u := e; injection e2 with e2; subst e2; exact h
            obtain rfl : v5 = .int .i64 LG := by obtain ⟨u, e, h⟩ := hval 5 (by omega); have e2 : some v5 = some u := e; injection e2 with e2; subst e2; exact h
            have k6 : v6 = .bool true := by obtain ⟨u, e, h⟩ := hval 6 (by omega); have e2 : some v6 = some u := e; injection e2 with e2; subst e2; exact h
            obtain rfl : v7 = .bool false := by obtain ⟨u, e, h⟩ := hval 7 (by omega); have e2 : some v7 = some u := e; injection e2 with e2; subst e2; exact h
            obtain rfl : v8 = .bool false := by obtain ⟨u, e, h⟩ := hval 8 (by omega); have e2 : some v8 = some u := e; injection e2 with e2; subst e2; exact h
            obtain rfl : v9 = .pointer (some ⟨w.heap.size, 0, none⟩) := by obtain ⟨u, e, h⟩ := hval 9 (by omega); have e2 : some v9 = some u := e; injection e2 with e2; subst e2; exact h
            obtain rfl : v10 = .slice (some ⟨b, off, none⟩) M.levers.length cap := by obtain ⟨u, e, h⟩ := hval 10 (by omega); have e2 : some v10 = some u := e; injection e2 with e2; subst e2; exact h
            obtain rfl : v11 = .int .i64 (k : Nat) := by obtain ⟨u, e, h⟩ := hval 11 (by omega); have e2 : some v11 = some u := e; injection e2 with e2; subst e2; exact h
            obtain rfl : v12 = .pointer (some ⟨b, off + k * 3, none⟩) := by obtain ⟨u, e, h⟩ := hval 12 (by omega); have e2 : some v12 = some u := e; injection e2 with e2; subst e2; exact h
            obtain rfl : v13 = .pointer (some ⟨b, off + k * 3 + 1, none⟩) := by obtain ⟨u, e, h⟩ := hval 13 (by omega); have e2 : some v13 = some u := e; injection e2 with e2; subst e2; exact h
            obtain rfl : v14 = .pointer (some ⟨b, off + k * 3 + 1, none⟩) := by obtain ⟨u, e, h⟩ := hval 14 (by omega); have e2 : some v14 = some u := e; injection e2 with e2; subst e2; exact h
            obtain rfl : v15 = .int .i64 LO := by obtain ⟨u, e, h⟩ := hval 15 (by omega); have e2 : some v15 = some u := e; injection e2 with e2; subst e2; exact h
            obtain rfl : v16 = .pointer (some ⟨w.heap.size, 0, none⟩) := by obtain ⟨u, e, h⟩ := hval 16 (by omega); have e2 : some v16 = some u := e; injection e2 with e2; subst e2; exact h
            obtain rfl : v17 = .slice (some ⟨b, off, none⟩) M.levers.length cap := by obtain ⟨u, e, h⟩ := hval 17 (by omega); have e2 : some v17 = some u := e; injection e2 with e2; subst e2; exact h
            obtain rfl : v18 = .int .i64 (k : Nat) := by obtain ⟨u, e, h⟩ := hval 18 (by omega); have e2 : some v18 = some u := e; injection e2 with e2; subst e2; exact h
            obtain rfl : v19 = .pointer (some ⟨b, off + k * 3, none⟩) := by obtain ⟨u, e, h⟩ := hval 19 (by omega); have e2 : some v19 = some u := e; injection e2 with e2; subst e2; exact h
            obtain rfl : v20 = .pointer (some ⟨b, off + k * 3 + 1, none⟩) := by obtain ⟨u, e, h⟩ := hval 20 (by omega); have e2 : some v20 = some u := e; injection e2 with e2; subst e2; exact h
            obtain rfl : v21 = .pointer (some ⟨b, off + k * 3 + 1 + 1, none⟩) := by obtain ⟨u, e, h⟩ := hval 21 (by omega); have e2 : some v21 = some u := e; injection e2 with e2; subst e2; exact h
            obtain rfl : v22 = .int .i64 HH := by obtain ⟨u, e, h⟩ := hval 22 (by omega); have e2 : some v22 = some u := e; injection e2 with e2; subst e2; exact h
            have k23 : v23 = .bool true := by obtain ⟨u, e, h⟩ := hval 23 (by omega); have e2 : some v23 = some u := e; injection e2 with e2; subst e2; exact h
            obtain rfl : v24 = .bool false := by obtain ⟨u, e, h⟩ := hval 24 (by omega); have e2 : some v24 = some u := e; injection e2 with e2; subst e2; exact h
            obtain rfl : v25 = .bool false := by obtain ⟨u, e, h⟩ := hval 25 (by omega); have e2 : some v25 = some u := e; injection e2 with e2; subst e2; exact h
            obtain rfl : v26 = .bool false := by obtain ⟨u, e, h⟩ := hval 26 (by omega); have e2 : some v26 = some u := e; injection e2 with e2; subst e2; exact h
            obtain rfl : v27 = .pointer (some ⟨w.heap.size, 0, none⟩) := by obtain ⟨u, e, h⟩ := hval 27 (by omega); have e2 : some v27 = some u := e; injection e2 with e2; subst e2; exact h
            obtain rfl : v28 = .slice (some ⟨b, off, none⟩) M.levers.length cap := by obtain ⟨u, e, h⟩ := hval 28 (by omega); have e2 : some v28 = some u := e; injection e2 with e2; subst e2; exact h
            obtain rfl : v29 = .int .i64 (k : Nat) := by obtain ⟨u, e, h⟩ := hval 29 (by omega); have e2 : some v29 = some u := e; injection e2 with e2; subst e2; exact h
            obtain rfl : v30 = .pointer (some ⟨b, off + k * 3, none⟩) := by obtain ⟨u, e, h⟩ := hval 30 (by omega); have e2 : some v30 = some u := e; injection e2 with e2; subst e2; exact h
            obtain rfl : v31 = .pointer (some ⟨b, off + k * 3 + 1, none⟩) := by obtain ⟨u, e, h⟩ := hval 31 (by omega); have e2 : some v31 = some u := e; injection e2 with e2; subst e2; exact h
            obtain rfl : v32 = .pointer (some ⟨b, off + k * 3 + 1 + 1, none⟩) := by obtain ⟨u, e, h⟩ := hval 32 (by omega); have e2 : some v32 = some u := e; injection e2 with e2; subst e2; exact h
            obtain rfl : v33 = .int .i64 HH := by obtain ⟨u, e, h⟩ := hval 33 (by omega); have e2 : some v33 = some u := e; injection e2 with e2; subst e2; exact h
            obtain rfl : v34 = .bool false := by obtain ⟨u, e, h⟩ := hval 34 (by omega); have e2 : some v34 = some u := e; injection e2 with e2; subst e2; exact h
            obtain rfl : v35 = .bool false := by obtain ⟨u, e, h⟩ := hval 35 (by omega); have e2 : some v35 = some u := e; injection e2 with e2; subst e2; exact h
            clear hval
            simp only [putL, Act.put, List.drop, List.setIfInBounds_toArray, List.set_cons_zero, List.set_cons_succ]
            have HB8 := Lib.hid (hbl.out.trans (hb.mono hsz))
            clear hb
            go_wp2_with fail
            exact ⟨⟨k + 1, by omega, by go_num, HB8, HOK⟩, by simp [intOf]; omega⟩
    · obtain rfl : M.levers.length = k := by omega
      have HALL := Lib.hid hall.out
      have HBL0 := Lib.hid hbl.out
      clear hall hbl hw1
      obtain ⟨wl, hwl⟩ : ∃ wl, wl = wr := ⟨_, rfl⟩
      rw [← hwl] at HBL0 c0 c1 c2 c3 c4 c5 hsz ⊢
      clear hwl
      go_wp2_with fail
      go_loopw [4] (fun i wr => ∃ k : Nat, k ≤ M.bals.length ∧ i = .int .i64 k ∧ Hid (Below (w.heap.size + 1) (w.alloc (.cells #[.slice a M.levers.length cap, .int .i64 M.water, .int .i64 M.lkLo, .int .i64 M.lkHi, .slice a2 M.bals.length cap2, .int .i64 M.wrong] 27)) wr) ∧ Hid (allTo (fun i => balB (bnth M.bals i)) k = true)) (fun i _ => M.bals.length - (intOf i).toNat)
      case atStart => exact ⟨0, Nat.zero_le _, rfl, HBL0, Lib.hid rfl⟩
      case round =>
        clear c0 c1 c2 c3 c4 c5 hsz HBL0
        obtain ⟨k, hk, rfl, hbl, hall⟩ := hrel
        have hw1 := boxed hbl.out
        have hsz : w.heap.size + 1 ≤ wr.heap.size := by have := hbl.out.size; simpa using this
        obtain ⟨c0, c1, c2, c3, c4, c5⟩ := cells6 ((hbl.out.block w.heap.size (by omega)).trans (heap_new w _))
        have HW1 := Lib.hid hw1
        by_cases hlt : k < M.bals.length
        · have hlt' : ((k : Nat) : Int) < (M.bals.length : Int) := by omega
          obtain ⟨rfl, hbw⟩ := HA2.out (by omega)
          obtain ⟨d0, d1, d2, d3⟩ := (HC2.out k hlt).below hw1 hbw
          have hno : balB (bnth M.bals k) = false → RV = 30 := fun h => HNV.out (fun hv => by
            have h5 := validM_iff.2 hv
            rw [HV0.out, allTo_false (p := fun i => balB (bnth M.bals i)) (n := M.bals.length) hlt h] at h5
            simp at h5)
          have HNO := Lib.hid hno
          have HST := Lib.hid (fun h => allTo_step (p := fun i => balB (bnth M.bals i)) hall h)
          have hlv : balB (bnth M.bals k) = (ask3 (bnth M.bals k).weight (bnth M.bals k).minutes (bnth M.bals k).load && wB (bnth M.bals k).off 0 999999999) := rfl
          obtain ⟨x0, hx0⟩ : ∃ x, (bnth M.bals k).weight = x := ⟨_, rfl⟩
          obtain ⟨x1, hx1⟩ : ∃ x, (bnth M.bals k).minutes = x := ⟨_, rfl⟩
          obtain ⟨x2, hx2⟩ : ∃ x, (bnth M.bals k).load = x := ⟨_, rfl⟩
          obtain ⟨x3, hx3⟩ : ∃ x, (bnth M.bals k).off = x := ⟨_, rfl⟩
          rw [hx0] at d0 hlv
          rw [hx1] at d1 hlv
          rw [hx2] at d2 hlv
          rw [hx3] at d3 hlv
          have HLV := Lib.hid hlv
          have HBN := Lib.hid (hbl.out.alloc (by simpa using hsz) (.cells #[.int .i64 x0, .int .i64 x1, .int .i64 x2, .int .i64 x3] 51))
          have HBM := Lib.hid (hw1.alloc (show w.heap.size ≤ wr.heap.size by omega) (.cells #[.int .i64 x0, .int .i64 x1, .int .i64 x2, .int .i64 x3] 51))
          clear hno hlv hx0 hx1 hx2 hx3 hw1 hall hbl
          cases h1 : ask3 x0 x1 x2 with
          | false =>
            have HF := Lib.hid (HNO.out (by rw [HLV.out, h1]; rfl))
            go_wp2_with (first | (go_at_call 33; refine (IsAsk_any _ _ _ _).mono ?_; rintro e w' ⟨rfl, rfl⟩; rw [h1]))
            go_ret
            exact ⟨ret_int HF.out.symm, HBM.out⟩
          | true =>
            cases h2 : wB x3 0 999999999 with
            | false =>
              have HF := Lib.hid (HNO.out (by rw [HLV.out, h1, h2]; rfl))
              go_wp2_with (first | (go_at_call 33; refine (IsAsk_any _ _ _ _).mono ?_; rintro e w' ⟨rfl, rfl⟩; rw [h1]) | (go_at_call 53; refine (uwithin_any _ _ _ _).mono ?_; rintro e w' ⟨rfl, rfl⟩; rw [h2]))
              go_ret
              exact ⟨ret_int HF.out.symm, HBM.out⟩
            | true =>
              have HOK := Lib.hid (HST.out (show balB (bnth M.bals k) = true by rw [HLV.out, h1, h2]; rfl)).out
              go_wp2_with (first | (go_at_call 33; refine (IsAsk_any _ _ _ _).mono ?_; rintro e w' ⟨rfl, rfl⟩; rw [h1]) | (go_at_call 53; refine (uwithin_any _ _ _ _).mono ?_; rintro e w' ⟨rfl, rfl⟩; rw [h2]))
              exact ⟨⟨k + 1, by omega, by go_num, HBN, HOK⟩, by simp [intOf]; omega⟩
        · obtain rfl : M.bals.length = k := by omega
          have HF := Lib.hid (show RV = 0 by
            rw [← HRV.out]
            exact chk_ok (by rw [HV0.out, hall.out, Bool.and_true]; exact HALL.out))
          clear hall hbl hw1
          go_wp2_with fail
          go_ret
          exact ⟨ret_int HF.out.symm, HW1.out⟩
end Go.Proofs.Ytomcjopcfdllgaa

namespace Go.Proofs.Ytomcjopcfdllgaa
open Go.RowKit Go.Shelf

theorem isKnown_any (e : Int) (w : World) (he : e = 0 ∨ e = 3) : Calls Try.prog 29 #[.int .i64 e] w fun r w' => r = .returned (.bool true) ∧ w = w' := by
  rcases he with rfl | rfl
  all_goals
    go_enter Try.func29, Try.ntmps29
    go_wp2
    go_ret
    exact ⟨rfl, rfl⟩
theorem isAsk_any (x y z : Int) (w : World) : Calls Try.prog 12 #[.agg #[.int .i64 x, .int .i64 y, .int .i64 z]] w fun r w' => r = .returned (.bool (ask3 x y z)) ∧ Below w.heap.size w w' := by
  go_enter Try.func12, Try.ntmps12
  go_wp2_with (go_at_call 33; refine (IsAsk_any _ _ _ _).mono ?_; rintro e w' ⟨rfl, rfl⟩)
  go_ret
  exact ⟨rfl, by go_grown⟩
theorem sane_any (x y : Int) (w : World) (h : 0 ≤ x ∧ x ≤ y ∧ y < 1125899906842624) : Calls Try.prog 22 #[.agg #[.int .i64 x, .int .i64 y]] w fun r w' => r = .returned (.bool true) ∧ Below w.heap.size w w' := by
  obtain ⟨h0, h1, h2⟩ := h
  go_enter Try.func22, Try.ntmps22
  go_wp2
  go_ret
  exact ⟨by first | rfl | (simp; done) | (simp; omega), by go_grown⟩

def SomeB (e : Ending) : Prop := ∃ r, e = .returned (.bool r)
set_option maxRecDepth 100000 in
set_option maxHeartbeats 4000000 in
theorem Far_any (v : Value) (M : Mach) (w : World) (hx : MachAt w.heap.size w v M) :
    Calls Try.prog 39 #[v] w fun e w' => SomeB e ∧ Below w.heap.size w w' := by
  have HX := Lib.hid (fun W (hb : Below w.heap.size w W) => (hx.below hb).mono hb.size)
  obtain ⟨a, cap, b, off, a2, cap2, b2, off2, rfl, hm, hm2, HA, HC, HA2, HC2, HI, HI2, HW⟩ := hx.opened
  clear hx
  by_cases hn1 : M.levers.length ≤ 40
  case neg =>
    have hn1' : (40 : Int) < (M.levers.length : Int) := by omega
    go_enter Try.func39, Try.ntmps39
    go_wp2_with fail
    go_ret
    exact ⟨⟨_, rfl⟩, by go_grown⟩
  have hn1' : ¬ (40 : Int) < (M.levers.length : Int) := by omega
  by_cases hn2 : M.bals.length ≤ 40
  case neg =>
    have hn2' : (40 : Int) < (M.bals.length : Int) := by omega
    go_enter Try.func39, Try.ntmps39
    go_wp2_with fail
    go_ret
    exact ⟨⟨_, rfl⟩, by go_grown⟩
  have hn2' : ¬ (40 : Int) < (M.bals.length : Int) := by omega
  have HCK := Lib.hid (fun W hb => rCheck_any _ M W (HX.out W hb))
  cases hv : validMB M
  case false =>
    rw [chk_bad hv] at HCK
    go_enter Try.func39, Try.ntmps39
    go_wp2_with (go_at_call 41; refine (HCK.out _ (by go_grown)).mono ?_; rintro e w1 ⟨rfl, hb⟩; have HB := Lib.hid ((show Below w.heap.size w _ by go_grown).trans (hb.mono (by simp))); clear hb)
    go_ret
    exact ⟨⟨_, rfl⟩, HB.out⟩
  rw [chk_ok hv] at HCK
  have hV := validM_iff.1 hv
  have hlk := hV.leak
  go_enter Try.func39, Try.ntmps39
  go_wp2_with (go_at_call 41; refine (HCK.out _ (by go_grown)).mono ?_; rintro e w1 ⟨rfl, hb⟩; have HB := Lib.hid ((show Below w.heap.size w _ by go_grown).trans (hb.mono (by simp))); obtain ⟨c0, c1, c2, c3, c4, c5⟩ := cells6 ((hb.block w.heap.size (by simp)).trans (heap_new w _)); have HBX := Lib.hid ((hb.block w.heap.size (by simp)).trans (heap_new w _)); clear hb)
  have hw1 := HB.out
  obtain ⟨N0, hN0⟩ : ∃ x, M.lkHi - M.lkLo + 1 = x := ⟨_, rfl⟩
  have hN1 : 1 ≤ N0 ∧ N0 ≤ 150 := by omega
  rw [hN0]
  clear hN0 c0 c1 c2 c3 c4 c5 hn1' hn2' hw1
  have hnl := hV.nl
  go_loopw [3, 4] (fun nv i wr => ∃ (k : Nat) (n0 : Int), k ≤ M.levers.length ∧ i = .int .i64 k ∧ nv = .int .i64 n0 ∧ (1 ≤ n0 ∧ n0 ≤ 150) ∧ Hid (∃ m, wr = w1.drewN m)) (fun _ i _ => M.levers.length - (intOf i).toNat)
  case atStart => exact ⟨0, N0, Nat.zero_le _, rfl, rfl, hN1, Lib.hid ⟨0, rfl⟩⟩
  case round =>
    obtain ⟨k, n0, hk, rfl, rfl, hn0, hdr⟩ := hrel
    obtain ⟨m0, hm0⟩ := hdr.out
    have c0 : wr.cell? ⟨w.heap.size, 0, none⟩ = some (.slice a M.levers.length cap) := by rw [hm0]; exact (cells6 HBX.out).1
    have HBR := Lib.hid (show ∀ p, Below w.heap.size w (wr.drewN p) from fun p => by rw [hm0]; exact drewN_below (drewN_below HB.out m0) p)
    have HDR := Lib.hid (show ∀ p, ∃ m, wr.drewN p = w1.drewN m from fun p => ⟨m0 + p, by rw [hm0, World.drewN_drewN]⟩)
    have HBR0 := Lib.hid (show Below w.heap.size w wr by rw [hm0]; exact drewN_below HB.out m0)
    by_cases hlt : k < M.levers.length
    · have hlt' : ((k : Nat) : Int) < (M.levers.length : Int) := by omega
      obtain ⟨rfl, hbw⟩ := HA.out (by omega)
      have hT : Three wr b (off + k * 3) (lnth M.levers k).long (lnth M.levers k).lo (lnth M.levers k).hi := by rw [hm0]; exact (HC.out k hlt).below (drewN_below HB.out m0) hbw
      obtain ⟨d0, d1, d2⟩ := hT
      have hlv := hV.lev (lnth M.levers k) (by rw [lnth_lt hlt]; exact List.getElem_mem hlt)
      obtain ⟨LO, hLO⟩ : ∃ x, (lnth M.levers k).lo = x := ⟨_, rfl⟩
      obtain ⟨HH, hHH⟩ : ∃ x, (lnth M.levers k).hi = x := ⟨_, rfl⟩
      rw [hLO] at d1 hlv
      rw [hHH] at d2 hlv
      have e1 : 1 ≤ n0 * (HH - LO + 1) ∧ n0 * (HH - LO + 1) ≤ 150 * 1000 := ⟨by have := mul_mono (b := n0) (y := HH - LO + 1) (show (0 : Int) ≤ 1 by decide) (show (0 : Int) ≤ 1 by decide) hn0.1 (show 1 ≤ HH - LO + 1 by omega); omega, mul_mono (by omega) (by omega) hn0.2 (by omega)⟩
      obtain ⟨P, hP⟩ : ∃ P, n0 * (HH - LO + 1) = P := ⟨_, rfl⟩
      have w1' : wrap64 (n0 * (HH - LO + 1)) = P := by rw [hP] at e1 ⊢; exact wrap_in (by omega)
      have w2' : IntKind.i64.wrap (n0 * (HH - LO + 1)) = P := by rw [hP] at e1 ⊢; exact IntWalk.i64_in _ (by omega)
      rw [hP] at e1
      clear hP hm0 hLO hHH d0 hdr
      by_cases hp : 150 < P
      · go_wp2
        go_quiet (fail)
        go_wp2
        go_ret
        exact ⟨⟨_, rfl⟩, HBR.out _⟩
      · have hp' : P ≤ 150 := by omega
        go_wp2
        go_quiet (fail)
        go_wp2
        exact ⟨⟨k + 1, P, by omega, by go_num, rfl, ⟨e1.1, hp'⟩, HDR.out _⟩, by simp [intOf]; omega⟩
    · obtain rfl : M.levers.length = k := by omega
      clear hm0 hdr
      go_wp2
      go_ret
      exact ⟨⟨_, rfl⟩, HBR0.out⟩
def ReadyB (M : Mach) (e : Ending) : Prop := ∃ r, e = .returned (.bool r) ∧ (r = true → validMB M = true)
set_option maxRecDepth 100000 in
set_option maxHeartbeats 2000000 in
theorem ready_any (v : Value) (M : Mach) (w : World) (hx : MachAt w.heap.size w v M) :
    Calls Try.prog 11 #[v] w fun e w' => ReadyB M e ∧ Below w.heap.size w w' := by
  have HX := Lib.hid (fun W (hb : Below w.heap.size w W) => (hx.below hb).mono hb.size)
  obtain ⟨a, cap, a2, cap2, rfl⟩ := hx.form
  have HFA := Lib.hid (fun W hb => Far_any _ M W (HX.out W hb))
  have HCK := Lib.hid (fun W hb => rCheck_any _ M W (HX.out W hb))
  clear hx
  go_enter Try.func11, Try.ntmps11
  go_wp2_with fail
  refine (HFA.out _ (by go_grown)).mono ?_
  rintro e w1 ⟨⟨r, rfl⟩, hb⟩
  have HB1 := Lib.hid ((show Below w.heap.size w _ by go_grown).trans (hb.mono (by simp)))
  obtain ⟨c0, c1, c2, c3, c4, c5⟩ := cells6 ((hb.block w.heap.size (by simp)).trans (heap_new w _))
  clear hb
  cases r
  · cases hv : validMB M
    all_goals
      first | rw [chk_bad hv] at HCK | rw [chk_ok hv] at HCK
      go_wp2_with fail
      refine (HCK.out w1 HB1.out).mono ?_
      rintro e w2 ⟨rfl, hb⟩
      have HB2 := Lib.hid (HB1.out.trans (hb.mono HB1.out.size))
      clear hb
      go_wp2_with fail
      go_ret
      exact ⟨⟨_, rfl, by simp [hv]⟩, HB2.out⟩
  · go_wp2_with fail
    go_ret
    exact ⟨⟨_, rfl, by simp⟩, HB1.out⟩
end Go.Proofs.Ytomcjopcfdllgaa
