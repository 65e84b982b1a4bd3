/-
  Walks: the reference's check, truths and fits.
-/
import Derived.Test.YtjflpmhlodgadaaW3
import Derived.Lib.QuietBelow
namespace Go.Proofs.Ytjflpmhlodgadaa
open Go.RowKit Go.Sort

theorem prev_ge {xs : List Int} : ∀ {k : Nat}, allTo (heatOk xs) k = true → -1 ≤ prevH xs k
  | 0, _ => by simp [prevH]
  | k + 1, h => by
    simp only [allTo, Bool.and_eq_true, heatOk, decide_eq_true_eq] at h
    have := prev_ge h.1
    simp only [prevH]; omega

theorem heatOk_f {xs : List Int} {j : Nat} (h : nth xs (j + 1) ≤ nth xs j) : heatOk xs (j + 1) = false := by
  have h0 : prevH xs (j + 1) = nth xs j := rfl
  simp only [heatOk, Bool.and_eq_false_iff, decide_eq_false_iff_not]; omega
theorem heatOk_t {xs : List Int} {j : Nat} (h : ¬ nth xs (j + 1) ≤ nth xs j) (h9 : nth xs (j + 1) ≤ 9) : heatOk xs (j + 1) = true := by
  have h0 : prevH xs (j + 1) = nth xs j := rfl
  simp only [heatOk, Bool.and_eq_true, decide_eq_true_eq]; omega
theorem heatOk_z {xs : List Int} (h : 0 ≤ nth xs 0) (h9 : nth xs 0 ≤ 9) : heatOk xs 0 = true := by
  have h0 : prevH xs 0 = -1 := rfl
  simp only [heatOk, Bool.and_eq_true, decide_eq_true_eq]; omega

set_option maxHeartbeats 400000 in
theorem areHeats_any (v : Value) (xs : List Int) (w : World) {B : Nat} (hx : IntsAt B w v xs) :
    Calls Try.prog 73 #[v] w fun e w' => e = .returned (.bool (heatsOk xs)) ∧ ∃ n, w' = w.drewN n := by
  obtain ⟨a, cap, b, off, rfl, hm, HA, HC, HW⟩ := hx.opened
  clear hx
  go_enter Try.func73, Try.ntmps73
  go_wp2
  go_loopw [3] (fun i wr => ∃ k : Nat, k ≤ xs.length ∧ i = .int .i64 k ∧ Hid (allTo (heatOk xs) k = true) ∧ (∃ n, wr = w.drewN n)) (fun i _ => xs.length - (intOf i).toNat)
  case atStart => exact ⟨0, Nat.zero_le _, rfl, rfl, 0, rfl⟩
  case round =>
    obtain ⟨k, hk, rfl, hall, n0, hwr⟩ := hrel
    have HC := Lib.hid (show ∀ i, i < xs.length → wr.cell? ⟨b, off + i, none⟩ = some (.int .i64 (nth xs i)) from fun i hi => hwr ▸ HC.out i hi)
    have HWR := Lib.hid (show ∀ m, ∃ n, wr.drewN m = w.drewN n from fun m => ⟨n0 + m, by rw [hwr, World.drewN_drewN]⟩)
    have HWR0 := Lib.hid (show ∃ n, wr = w.drewN n from ⟨n0, hwr⟩)
    clear hwr
    have hp := prev_ge hall.out
    by_cases hlt : k < xs.length
    · obtain ⟨rfl, hb⟩ := HA.out (by omega)
      have hcell := HC.out k hlt
      cases hc : wB (nth xs k) 0 9
      · have HQ := Lib.hid hc
        have hno : heatsOk xs = false := allTo_false hlt (by
          have := wB_false.1 hc
          simp only [heatOk, Bool.and_eq_false_iff, decide_eq_false_iff_not]; omega)
        have HN := Lib.hid hno
        clear hc hno
        go_wp2
        go_quiet ((go_at_call 37; exact Calls.quiet_of_same ((rwithin_to HQ.out _).mono fun _ _ h => ⟨h.1, h.2.symm⟩)))
        go_wp2
        go_ret
        exact ⟨ret_bool HN.out.symm, HWR.out _⟩
      · have HQ := Lib.hid hc
        have hc' := wB_iff.1 hc
        clear hc
        obtain ⟨hc1, hc2⟩ := hc'
        cases k with
        | zero =>
          have hok := Lib.hid (show heatOk xs 0 = true from heatOk_z hc1 hc2)
          simp only [Nat.add_zero] at hcell
          have hd : decide ((0 : Int) < 0) = false := by simp
          go_wp2
          go_quiet ((go_at_call 37; exact Calls.quiet_of_same ((rwithin_to HQ.out _).mono fun _ _ h => ⟨h.1, h.2.symm⟩)))
          go_wp2
          exact ⟨⟨0 + 1, by omega, by go_num, allTo_step hall hok.out, HWR.out _⟩, by simp [intOf]; omega⟩
        | succ j =>
          have hcell2 := HC.out j (by omega)
          have hj0 : (0 : Int) < (j : Int) + 1 := by omega
          by_cases hle : nth xs (j + 1) ≤ nth xs j
          · have hno := Lib.hid (show heatsOk xs = false from allTo_false hlt (heatOk_f hle))
            go_wp2
            go_quiet ((go_at_call 37; exact Calls.quiet_of_same ((rwithin_to HQ.out _).mono fun _ _ h => ⟨h.1, h.2.symm⟩)))
            go_wp2
            go_ret
            exact ⟨ret_bool hno.out.symm, HWR.out _⟩
          · have hok := Lib.hid (show heatOk xs (j + 1) = true from heatOk_t hle hc2)
            go_wp2
            go_quiet ((go_at_call 37; exact Calls.quiet_of_same ((rwithin_to HQ.out _).mono fun _ _ h => ⟨h.1, h.2.symm⟩)))
            go_wp2
            exact ⟨⟨j + 1 + 1, by omega, by go_num, allTo_step hall hok.out, HWR.out _⟩, by simp [intOf]; omega⟩
    · go_wp2
      go_ret
      exact ⟨ret_bool (by rw [heatsOk, show xs.length = k by omega, hall.out]), HWR0.out⟩
theorem areHeats_to {v : Value} {xs : List Int} {w : World} {B : Nat} {r : Bool} (h : heatsOk xs = r) (hx : IntsAt B w v xs) :
    Calls Try.prog 73 #[v] w fun e w' => e = .returned (.bool r) ∧ ∃ n, w' = w.drewN n := h ▸ areHeats_any v xs w hx

end Go.Proofs.Ytjflpmhlodgadaa
