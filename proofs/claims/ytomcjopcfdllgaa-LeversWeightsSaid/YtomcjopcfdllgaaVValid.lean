/-
  Levers, walks: whether a machine is valid; Check.
-/
import Derived.Test.YtomcjopcfdllgaaVBelow
import Derived.Test.YtomcjopcfdllgaaVKeep

namespace Go.Proofs.Ytomcjopcfdllgaa
open Go.RowKit

def spanB (a b lo hi : Int) : Bool := decide (lo ≤ a) && decide (a ≤ b) && decide (b ≤ hi)
def leverB (l : Lev) : Bool := wB l.long 1 1000 && spanB l.lo l.hi 1 1000
def balB (b : Bal) : Bool := askB b.weight b.minutes b.load b.off
def validMB (M : Mach) : Bool := decide (M.levers.length ≤ 3) && decide (M.bals.length ≤ 6) && allTo (fun i => leverB (lnth M.levers i)) M.levers.length && allTo (fun i => balB (bnth M.bals i)) M.bals.length &&
  (wB M.water 0 9999 && spanB M.lkLo M.lkHi 0 20 && wB M.wrong 0 6)
theorem validM_iff {M : Mach} : validMB M = true ↔ ValidM M := by
  simp only [validMB, Bool.and_eq_true, decide_eq_true_eq, allTo_iff, leverB, balB, askB, wB_iff, spanB]
  constructor
  · rintro ⟨⟨⟨⟨h1, h2⟩, h3⟩, h4⟩, ⟨h5, h6⟩, h7⟩
    refine ⟨h1, fun l hl => ?_, h5, by omega, h2, fun b hb => ?_, h7⟩
    · obtain ⟨i, hi, rfl⟩ := List.getElem_of_mem hl
      have := h3 i hi
      rw [lnth_lt hi] at this
      omega
    · obtain ⟨i, hi, rfl⟩ := List.getElem_of_mem hb
      have := h4 i hi
      rw [bnth_lt hi] at this
      omega
  · intro h
    refine ⟨⟨⟨⟨h.nl, h.nb⟩, fun i hi => ?_⟩, fun i hi => ?_⟩, ⟨h.water, ?_⟩, h.wrong⟩
    · have := h.lev (lnth M.levers i) (by rw [lnth_lt hi]; exact List.getElem_mem hi)
      omega
    · have := h.bal (bnth M.bals i) (by rw [bnth_lt hi]; exact List.getElem_mem hi)
      omega
    · have := h.leak; omega

theorem validSpan_to {a b lo hi : Int} {r : Bool} (h : spanB a b lo hi = r) (w : World) :
    Calls Try.prog 83 #[.agg #[.int .i64 a, .int .i64 b], .int .i64 lo, .int .i64 hi] w fun e w' => e = .returned (.bool r) ∧ Below w.heap.size w w' := h ▸ validSpan_any a b lo hi w
theorem validBal_to {x0 x1 x2 x3 : Int} {r : Bool} (h : askB x0 x1 x2 x3 = r) (w : World) :
    Calls Try.prog 80 #[.agg #[.int .i64 x0, .int .i64 x1, .int .i64 x2, .int .i64 x3]] w fun e w' => e = .returned (.bool r) ∧ Below w.heap.size w w' := h ▸ validBalance_any x0 x1 x2 x3 w
/-- The six cells of a machine in a block. -/
theorem cells6 {W : World} {b : Nat} {v0 v1 v2 v3 v4 v5 : Value} {t : TypeId} (e : W.heap[b]? = some (.cells #[v0, v1, v2, v3, v4, v5] t)) :
    W.cell? ⟨b, 0, none⟩ = some v0 ∧ W.cell? ⟨b, 1, none⟩ = some v1 ∧ W.cell? ⟨b, 2, none⟩ = some v2 ∧ W.cell? ⟨b, 3, none⟩ = some v3 ∧ W.cell? ⟨b, 4, none⟩ = some v4 ∧ W.cell? ⟨b, 5, none⟩ = some v5 := by
  refine ⟨?_, ?_, ?_, ?_, ?_, ?_⟩ <;> simp [World.cell?, e]
theorem cells3 {W : World} {b : Nat} {v0 v1 v2 : Value} {t : TypeId} (e : W.heap[b]? = some (.cells #[v0, v1, v2] t)) :
    W.cell? ⟨b, 0, none⟩ = some v0 ∧ W.cell? ⟨b, 1, none⟩ = some v1 ∧ W.cell? ⟨b, 2, none⟩ = some v2 := by
  refine ⟨?_, ?_, ?_⟩ <;> simp [World.cell?, e]

set_option maxHeartbeats 4000000 in
theorem valid_any (v : Value) (M : Mach) (w : World) (hx : MachAt w.heap.size w v M) :
    Calls Try.prog 71 #[v] w fun e w' => e = .returned (.bool (validMB M)) ∧ Below w.heap.size w w' := by
  obtain ⟨a, cap, b, off, a2, cap2, b2, off2, rfl, hm, hm2, HA, HC, HA2, HC2, HI, HI2, HW⟩ := hx.opened
  clear hx
  obtain ⟨i1, i2, i3, i4⟩ := HW.out
  unfold I64 at i1 i2 i3 i4
  go_enter Try.func71, Try.ntmps71
  by_cases hn1 : M.levers.length ≤ 3
  case neg =>
    go_wp2_with fail
    go_ret
    exact ⟨ret_bool (by simp [validMB, hn1]), by go_grown⟩
  by_cases hn2 : M.bals.length ≤ 6
  case neg =>
    go_wp2_with fail
    go_ret
    exact ⟨ret_bool (by simp [validMB, hn2]), by go_grown⟩
  go_wp2_with fail
  go_loopw [20] (fun i wr => ∃ k : Nat, k ≤ M.levers.length ∧ i = .int .i64 k ∧ Below (w.heap.size + 1) (w.alloc _) wr ∧ Hid (allTo (fun i => leverB (lnth M.levers i)) k = true)) (fun i _ => M.levers.length - (intOf i).toNat)
  case atStart => exact ⟨0, Nat.zero_le _, rfl, Below.refl _ _, rfl⟩
  case round =>
    obtain ⟨k, hk, rfl, hbl, hall⟩ := hrel
    have hblk := hbl
    have hw1 := boxed hbl
    have hsz : w.heap.size + 1 ≤ wr.heap.size := by have := hbl.size; simpa using this
    obtain ⟨c0, c1, c2, c3, c4, c5⟩ := cells6 ((hbl.block w.heap.size (by omega)).trans (heap_new w _))
    by_cases hlt : k < M.levers.length
    · have hlt' : ((k : Nat) : Int) < (M.levers.length : Int) := by omega
      obtain ⟨rfl, hb⟩ := HA.out (by omega)
      obtain ⟨d0, d1, d2⟩ := (HC.out k hlt).below hw1 hb
      obtain ⟨j1, j2, j3⟩ := HI.out k hlt
      unfold I64 at j1 j2 j3
      have hno : leverB (lnth M.levers k) = false → validMB M = false := fun h => by
        rw [validMB, allTo_false (p := fun i => leverB (lnth M.levers i)) (n := M.levers.length) hlt h]; simp
      have hno := Lib.hid hno
      have HBL := Lib.hid hbl
      have HW1 := Lib.hid hw1
      clear hbl hblk hw1
      cases h1 : wB (lnth M.levers k).long 1 1000
      case false =>
        have HF := Lib.hid (show leverB (lnth M.levers k) = false by rw [leverB, h1]; rfl)
        have H1 := Lib.hid h1
        clear h1
        go_wp2_with (go_at_call 76; refine (vwithin_to H1.out _).mono ?_; rintro e w' ⟨rfl, rfl⟩)
        go_ret
        exact ⟨ret_bool (by rw [hno.out HF.out]), HW1.out.trans (by go_grown)⟩
      cases h2 : spanB (lnth M.levers k).lo (lnth M.levers k).hi 1 1000
      case false =>
        have HF := Lib.hid (show leverB (lnth M.levers k) = false by rw [leverB, h2]; simp)
        have H1 := Lib.hid h1
        have H2 := Lib.hid h2
        clear h1 h2
        go_wp2_with (first | (go_at_call 76; refine (vwithin_to H1.out _).mono ?_; rintro e w' ⟨rfl, rfl⟩) | (go_at_call 83; refine (validSpan_to H2.out _).mono ?_; rintro e w' ⟨rfl, hb2⟩; have HFIN := Lib.hid (HW1.out.trans ((show Below w.heap.size wr _ by go_grown).trans (hb2.mono (by simp; omega)))); clear hb2))
        go_ret
        exact ⟨ret_bool (by rw [hno.out HF.out]), HFIN.out⟩
      · have HF := Lib.hid (show leverB (lnth M.levers k) = true by rw [leverB, h1, h2]; rfl)
        have H1 := Lib.hid h1
        have H2 := Lib.hid h2
        clear h1 h2
        go_wp2_with (first | (go_at_call 76; refine (vwithin_to H1.out _).mono ?_; rintro e w' ⟨rfl, rfl⟩) | (go_at_call 83; refine (validSpan_to H2.out _).mono ?_; rintro e w' ⟨rfl, hb2⟩; have HFIN := Lib.hid (HBL.out.trans ((show Below (w.heap.size + 1) wr _ by go_grown).trans (hb2.mono (by simp; omega)))); clear hb2))
        exact ⟨⟨k + 1, by omega, by go_num, HFIN.out, allTo_step hall HF.out⟩, by simp [intOf]; omega⟩
    · have hall2 : Hid (allTo (fun i => leverB (lnth M.levers i)) M.levers.length = true) := by show allTo _ _ = true; rw [show M.levers.length = k by omega]; exact hall.out
      obtain rfl : M.levers.length = k := by omega
      clear hall hbl hw1
      obtain ⟨wl, hwl⟩ : ∃ wl, wl = wr := ⟨_, rfl⟩
      rw [← hwl] at hblk c0 c1 c2 c3 c4 c5 hsz ⊢
      clear hwl
      go_wp2
      go_loopw [38] (fun i wr => ∃ k : Nat, k ≤ M.bals.length ∧ i = .int .i64 k ∧ Below (w.heap.size + 1) (w.alloc _) wr ∧ Hid (allTo (fun i => balB (bnth M.bals i)) k = true)) (fun i _ => M.bals.length - (intOf i).toNat)
      case atStart => exact ⟨0, Nat.zero_le _, rfl, hblk, rfl⟩
      case round =>
        clear c0 c1 c2 c3 c4 c5 hblk hsz
        obtain ⟨k, hk, rfl, hbl, hall⟩ := hrel
        have hw1 := boxed hbl
        have hsz : w.heap.size + 1 ≤ wr.heap.size := by have := hbl.size; simpa using this
        obtain ⟨c0, c1, c2, c3, c4, c5⟩ := cells6 ((hbl.block w.heap.size (by omega)).trans (heap_new w _))
        have HBL := Lib.hid hbl
        have HW1 := Lib.hid hw1
        clear hbl hw1
        by_cases hlt : k < M.bals.length
        · have hlt' : ((k : Nat) : Int) < (M.bals.length : Int) := by omega
          obtain ⟨rfl, hb⟩ := HA2.out (by omega)
          obtain ⟨d0, d1, d2, d3⟩ := (HC2.out k hlt).below HW1.out hb
          obtain ⟨j1, j2, j3, j4⟩ := HI2.out k hlt
          unfold I64 at j1 j2 j3 j4
          have hno : balB (bnth M.bals k) = false → validMB M = false := fun h => by
            rw [validMB, allTo_false (p := fun i => balB (bnth M.bals i)) (n := M.bals.length) hlt h]; simp
          have hno := Lib.hid hno
          cases h1 : balB (bnth M.bals k)
          all_goals
            have H1 := Lib.hid h1
            clear h1
            go_wp2_with (go_at_call 80; refine (validBal_to H1.out _).mono ?_; rintro e w' ⟨rfl, hb2⟩; have HFIN := Lib.hid ((show Below (w.heap.size + 1) wr _ by go_grown).trans (hb2.mono (by simp; omega))); clear hb2)
          · go_ret
            exact ⟨ret_bool (by rw [hno.out H1.out]), HW1.out.trans (HFIN.out.mono (by omega))⟩
          · exact ⟨⟨k + 1, by omega, by go_num, HBL.out.trans HFIN.out, allTo_step hall H1.out⟩, by simp [intOf]; omega⟩
        · have hall3 : Hid (allTo (fun i => balB (bnth M.bals i)) M.bals.length = true) := by show allTo _ _ = true; rw [show M.bals.length = k by omega]; exact hall.out
          obtain rfl : M.bals.length = k := by omega
          have HV := Lib.hid (show validMB M = (wB M.water 0 9999 && spanB M.lkLo M.lkHi 0 20 && wB M.wrong 0 6) by rw [validMB, hall2.out, hall3.out]; simp [hn1, hn2])
          clear hall
          cases h1 : wB M.water 0 9999
          case false =>
            have H1 := Lib.hid h1
            clear h1
            go_wp2_with (go_at_call 76; refine (vwithin_to H1.out _).mono ?_; rintro e w' ⟨rfl, rfl⟩)
            go_ret
            exact ⟨ret_bool (by rw [HV.out, H1.out]; simp), HW1.out⟩
          have H1 := Lib.hid h1
          clear h1
          cases h2 : spanB M.lkLo M.lkHi 0 20
          case false =>
            have H2 := Lib.hid h2
            clear h2
            go_wp2_with (first | (go_at_call 76; refine (vwithin_to H1.out _).mono ?_; rintro e w' ⟨rfl, rfl⟩) | (go_at_call 83; refine (validSpan_to H2.out _).mono ?_; rintro e w' ⟨rfl, hb2⟩; have HFIN := Lib.hid (hb2.mono (show w.heap.size ≤ wr.heap.size by omega)); clear hb2))
            go_ret
            exact ⟨ret_bool (by rw [HV.out, H2.out]; simp), HW1.out.trans HFIN.out⟩
          have H2 := Lib.hid h2
          clear h2
          obtain ⟨r, h3⟩ : ∃ r, wB M.wrong 0 6 = r := ⟨_, rfl⟩
          have H3 := Lib.hid h3
          clear h3
          go_wp2_with (first | (go_at_call 76; refine (vwithin_any _ _ _ _).mono ?_; rintro e w' ⟨rfl, rfl⟩; first | rw [H1.out] | rw [H3.out]) | (go_at_call 83; refine (validSpan_to H2.out _).mono ?_; rintro e w' ⟨rfl, hb2⟩; have HFIN := Lib.hid (hb2.mono (show w.heap.size ≤ wr.heap.size by omega)); obtain ⟨y0, y1, y2, y3, y4, y5⟩ := cells6 (((HBL.out.trans (hb2.mono (by omega))).block w.heap.size (by omega)).trans (heap_new w _)); clear hb2))
          go_ret
          exact ⟨ret_bool (by rw [HV.out, H1.out, H2.out, H3.out]; simp), HW1.out.trans HFIN.out⟩

theorem valid_to {v : Value} {M : Mach} {r : Bool} (h : validMB M = r) (w : World) (hx : MachAt w.heap.size w v M) :
    Calls Try.prog 71 #[v] w fun e w' => e = .returned (.bool r) ∧ Below w.heap.size w w' := h ▸ valid_any v M w hx
def chkM (M : Mach) : Int := if validMB M = true then 0 else 30
set_option maxRecDepth 100000 in
set_option maxHeartbeats 400000 in
theorem check_any (v : Value) (M : Mach) (w : World) (hx : MachAt w.heap.size w v M) :
    Calls Try.prog 40 #[v] w fun e w' => e = .returned (.int .i64 (chkM M)) ∧ Below w.heap.size w w' := by
  have hx' := hx
  obtain ⟨a, cap, b, off, a2, cap2, b2, off2, rfl, _⟩ := hx.opened
  have HX := fun o => Lib.hid ((hx'.below ((Below.refl _ w).alloc (Nat.le_refl _) o)).mono (show w.heap.size ≤ (w.alloc o).heap.size by simp))
  clear hx hx'
  go_enter Try.func40, Try.ntmps40
  cases hr : validMB M
  all_goals
    have HQ := Lib.hid hr
    clear hr
    go_wp2_with (go_at_call 71; refine (valid_to HQ.out _ (HX _).out).mono ?_; rintro e w' ⟨rfl, hb⟩)
    go_ret
    exact ⟨by rw [chkM, HQ.out]; rfl, ((Below.refl _ _).alloc (Nat.le_refl _) _).trans (hb.mono (by simp))⟩
theorem check_to {v : Value} {M : Mach} {r : Int} (h : chkM M = r) (w : World) (hx : MachAt w.heap.size w v M) :
    Calls Try.prog 40 #[v] w fun e w' => e = .returned (.int .i64 r) ∧ Below w.heap.size w w' := h ▸ check_any v M w hx
end Go.Proofs.Ytomcjopcfdllgaa
