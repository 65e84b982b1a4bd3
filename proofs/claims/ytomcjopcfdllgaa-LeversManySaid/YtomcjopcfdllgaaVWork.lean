/-
  Levers, walks: whether a machine is valid; Check.
  Levers, walks: whether the load is at least some load in a setting.
  Levers, walks: a setting of a group; a machine at work, as memory holds it.
  Levers: pairs of short arms counted one after the other; rows of numbers in memory.
  Levers: what memory holds while pairs of short arms are counted and kept.
  Levers, walks: a machine at work, as memory holds it.
-/
import Derived.Test.YtomcjopcfdllgaaVBelow
import Derived.Test.YtomcjopcfdllgaaVSrc
import Derived.Deep.RegionWith
import Derived.Deep.AppendLies
import Derived.Maps.AppendAt

namespace Go.Proofs.Ytomcjopcfdllgaa
open Go.RowKit

def spanB (a b lo hi : Int) : Bool := decide (lo ≤ a) && decide (a ≤ b) && decide (b ≤ hi)
def leverB (l : Lev) : Bool := wB l.long 1 1000 && spanB l.lo l.hi 1 1000
def balB (b : Bal) : Bool := askB b.weight b.minutes b.load b.off
def validMB (M : Mach) : Bool := decide (M.levers.length ≤ 3) && decide (M.bals.length ≤ 6) && allTo (fun i => leverB (lnth M.levers i)) M.levers.length && allTo (fun i => balB (bnth M.bals i)) M.bals.length &&
  (wB M.water 0 9999 && spanB M.lkLo M.lkHi 0 20 && wB M.wrong 0 6)
theorem validM_iff {M : Mach} : validMB M = true ↔ ValidM M := by
  simp only [validMB, Bool.and_eq_true, decide_eq_true_eq, allTo_iff, leverB, balB, askB, wB_iff, spanB]
  constructor
  · rintro ⟨⟨⟨⟨h1, h2⟩, h3⟩, h4⟩, ⟨h5, h6⟩, h7⟩
    refine ⟨h1, fun l hl => ?_, h5, by omega, h2, fun b hb => ?_, h7⟩
    · obtain ⟨i, hi, rfl⟩ := List.getElem_of_mem hl
      have := h3 i hi
      rw [lnth_lt hi] at this
      omega
    · obtain ⟨i, hi, rfl⟩ := List.getElem_of_mem hb
      have := h4 i hi
      rw [bnth_lt hi] at this
      omega
  · intro h
    refine ⟨⟨⟨⟨h.nl, h.nb⟩, fun i hi => ?_⟩, fun i hi => ?_⟩, ⟨h.water, ?_⟩, h.wrong⟩
    · have := h.lev (lnth M.levers i) (by rw [lnth_lt hi]; exact List.getElem_mem hi)
      omega
    · have := h.bal (bnth M.bals i) (by rw [bnth_lt hi]; exact List.getElem_mem hi)
      omega
    · have := h.leak; omega

theorem validSpan_to {a b lo hi : Int} {r : Bool} (h : spanB a b lo hi = r) (w : World) :
    Calls Try.prog 83 #[.agg #[.int .i64 a, .int .i64 b], .int .i64 lo, .int .i64 hi] w fun e w' => e = .returned (.bool r) ∧ Below w.heap.size w w' := h ▸ validSpan_any a b lo hi w
theorem validBal_to {x0 x1 x2 x3 : Int} {r : Bool} (h : askB x0 x1 x2 x3 = r) (w : World) :
    Calls Try.prog 80 #[.agg #[.int .i64 x0, .int .i64 x1, .int .i64 x2, .int .i64 x3]] w fun e w' => e = .returned (.bool r) ∧ Below w.heap.size w w' := h ▸ validBalance_any x0 x1 x2 x3 w
/-- The six cells of a machine in a block. -/
theorem cells6 {W : World} {b : Nat} {v0 v1 v2 v3 v4 v5 : Value} {t : TypeId} (e : W.heap[b]? = some (.cells #[v0, v1, v2, v3, v4, v5] t)) :
    W.cell? ⟨b, 0, none⟩ = some v0 ∧ W.cell? ⟨b, 1, none⟩ = some v1 ∧ W.cell? ⟨b, 2, none⟩ = some v2 ∧ W.cell? ⟨b, 3, none⟩ = some v3 ∧ W.cell? ⟨b, 4, none⟩ = some v4 ∧ W.cell? ⟨b, 5, none⟩ = some v5 := by
  refine ⟨?_, ?_, ?_, ?_, ?_, ?_⟩ <;> simp [World.cell?, e]
theorem cells3 {W : World} {b : Nat} {v0 v1 v2 : Value} {t : TypeId} (e : W.heap[b]? = some (.cells #[v0, v1, v2] t)) :
    W.cell? ⟨b, 0, none⟩ = some v0 ∧ W.cell? ⟨b, 1, none⟩ = some v1 ∧ W.cell? ⟨b, 2, none⟩ = some v2 := by
  refine ⟨?_, ?_, ?_⟩ <;> simp [World.cell?, e]

set_option maxHeartbeats 4000000 in
theorem valid_any (v : Value) (M : Mach) (w : World) (hx : MachAt w.heap.size w v M) :
    Calls Try.prog 71 #[v] w fun e w' => e = .returned (.bool (validMB M)) ∧ Below w.heap.size w w' := by
  obtain ⟨a, cap, b, off, a2, cap2, b2, off2, rfl, hm, hm2, HA, HC, HA2, HC2, HI, HI2, HW⟩ := hx.opened
  clear hx
  obtain ⟨i1, i2, i3, i4⟩ := HW.out
  unfold I64 at i1 i2 i3 i4
  go_enter Try.func71, Try.ntmps71
  by_cases hn1 : M.levers.length ≤ 3
  case neg =>
    go_wp2_with fail
    go_ret
    exact ⟨ret_bool (by simp [validMB, hn1]), by go_grown⟩
  by_cases hn2 : M.bals.length ≤ 6
  case neg =>
    go_wp2_with fail
    go_ret
    exact ⟨ret_bool (by simp [validMB, hn2]), by go_grown⟩
  go_wp2_with fail
  go_loopw [20] (fun i wr => ∃ k : Nat, k ≤ M.levers.length ∧ i = .int .i64 k ∧ Below (w.heap.size + 1) (w.alloc _) wr ∧ Hid (allTo (fun i => leverB (lnth M.levers i)) k = true)) (fun i _ => M.levers.length - (intOf i).toNat)
  case atStart => exact ⟨0, Nat.zero_le _, rfl, Below.refl _ _, rfl⟩
  case round =>
    obtain ⟨k, hk, rfl, hbl, hall⟩ := hrel
    have hblk := hbl
    have hw1 := boxed hbl
    have hsz : w.heap.size + 1 ≤ wr.heap.size := by have := hbl.size; simpa using this
    obtain ⟨c0, c1, c2, c3, c4, c5⟩ := cells6 ((hbl.block w.heap.size (by omega)).trans (heap_new w _))
    by_cases hlt : k < M.levers.length
    · have hlt' : ((k : Nat) : Int) < (M.levers.length : Int) := by omega
      obtain ⟨rfl, hb⟩ := HA.out (by omega)
      obtain ⟨d0, d1, d2⟩ := (HC.out k hlt).below hw1 hb
      obtain ⟨j1, j2, j3⟩ := HI.out k hlt
      unfold I64 at j1 j2 j3
      have hno : leverB (lnth M.levers k) = false → validMB M = false := fun h => by
        rw [validMB, allTo_false (p := fun i => leverB (lnth M.levers i)) (n := M.levers.length) hlt h]; simp
      have hno := Lib.hid hno
      have HBL := Lib.hid hbl
      have HW1 := Lib.hid hw1
      clear hbl hblk hw1
      cases h1 : wB (lnth M.levers k).long 1 1000
      case false =>
        have HF := Lib.hid (show leverB (lnth M.levers k) = false by rw [leverB, h1]; rfl)
        have H1 := Lib.hid h1
        clear h1
        go_wp2_with (go_at_call 76; refine (vwithin_to H1.out _).mono ?_; rintro e w' ⟨rfl, rfl⟩)
        go_ret
        exact ⟨ret_bool (by rw [hno.out HF.out]), HW1.out.trans (by go_grown)⟩
      cases h2 : spanB (lnth M.levers k).lo (lnth M.levers k).hi 1 1000
      case false =>
        have HF := Lib.hid (show leverB (lnth M.levers k) = false by rw [leverB, h2]; simp)
        have H1 := Lib.hid h1
        have H2 := Lib.hid h2
        clear h1 h2
        go_wp2_with (first | (go_at_call 76; refine (vwithin_to H1.out _).mono ?_; rintro e w' ⟨rfl, rfl⟩) | (go_at_call 83; refine (validSpan_to H2.out _).mono ?_; rintro e w' ⟨rfl, hb2⟩; have HFIN := Lib.hid (HW1.out.trans ((show Below w.heap.size wr _ by go_grown).trans (hb2.mono (by simp; omega)))); clear hb2))
        go_ret
        exact ⟨ret_bool (by rw [hno.out HF.out]), HFIN.out⟩
      · have HF := Lib.hid (show leverB (lnth M.levers k) = true by rw [leverB, h1, h2]; rfl)
        have H1 := Lib.hid h1
        have H2 := Lib.hid h2
        clear h1 h2
        go_wp2_with (first | (go_at_call 76; refine (vwithin_to H1.out _).mono ?_; rintro e w' ⟨rfl, rfl⟩) | (go_at_call 83; refine (validSpan_to H2.out _).mono ?_; rintro e w' ⟨rfl, hb2⟩; have HFIN := Lib.hid (HBL.out.trans ((show Below (w.heap.size + 1) wr _ by go_grown).trans (hb2.mono (by simp; omega)))); clear hb2))
        exact ⟨⟨k + 1, by omega, by go_num, HFIN.out, allTo_step hall HF.out⟩, by simp [intOf]; omega⟩
    · have hall2 : Hid (allTo (fun i => leverB (lnth M.levers i)) M.levers.length = true) := by show allTo _ _ = true; rw [show M.levers.length = k by omega]; exact hall.out
      obtain rfl : M.levers.length = k := by omega
      clear hall hbl hw1
      obtain ⟨wl, hwl⟩ : ∃ wl, wl = wr := ⟨_, rfl⟩
      rw [← hwl] at hblk c0 c1 c2 c3 c4 c5 hsz ⊢
      clear hwl
      go_wp2
      go_loopw [38] (fun i wr => ∃ k : Nat, k ≤ M.bals.length ∧ i = .int .i64 k ∧ Below (w.heap.size + 1) (w.alloc _) wr ∧ Hid (allTo (fun i => balB (bnth M.bals i)) k = true)) (fun i _ => M.bals.length - (intOf i).toNat)
      case atStart => exact ⟨0, Nat.zero_le _, rfl, hblk, rfl⟩
      case round =>
        clear c0 c1 c2 c3 c4 c5 hblk hsz
        obtain ⟨k, hk, rfl, hbl, hall⟩ := hrel
        have hw1 := boxed hbl
        have hsz : w.heap.size + 1 ≤ wr.heap.size := by have := hbl.size; simpa using this
        obtain ⟨c0, c1, c2, c3, c4, c5⟩ := cells6 ((hbl.block w.heap.size (by omega)).trans (heap_new w _))
        have HBL := Lib.hid hbl
        have HW1 := Lib.hid hw1
        clear hbl hw1
        by_cases hlt : k < M.bals.length
        · have hlt' : ((k : Nat) : Int) < (M.bals.length : Int) := by omega
          obtain ⟨rfl, hb⟩ := HA2.out (by omega)
          obtain ⟨d0, d1, d2, d3⟩ := (HC2.out k hlt).below HW1.out hb
          obtain ⟨j1, j2, j3, j4⟩ := HI2.out k hlt
          unfold I64 at j1 j2 j3 j4
          have hno : balB (bnth M.bals k) = false → validMB M = false := fun h => by
            rw [validMB, allTo_false (p := fun i => balB (bnth M.bals i)) (n := M.bals.length) hlt h]; simp
          have hno := Lib.hid hno
          cases h1 : balB (bnth M.bals k)
          all_goals
            have H1 := Lib.hid h1
            clear h1
            go_wp2_with (go_at_call 80; refine (validBal_to H1.out _).mono ?_; rintro e w' ⟨rfl, hb2⟩; have HFIN := Lib.hid ((show Below (w.heap.size + 1) wr _ by go_grown).trans (hb2.mono (by simp; omega))); clear hb2)
          · go_ret
            exact ⟨ret_bool (by rw [hno.out H1.out]), HW1.out.trans (HFIN.out.mono (by omega))⟩
          · exact ⟨⟨k + 1, by omega, by go_num, HBL.out.trans HFIN.out, allTo_step hall H1.out⟩, by simp [intOf]; omega⟩
        · have hall3 : Hid (allTo (fun i => balB (bnth M.bals i)) M.bals.length = true) := by show allTo _ _ = true; rw [show M.bals.length = k by omega]; exact hall.out
          obtain rfl : M.bals.length = k := by omega
          have HV := Lib.hid (show validMB M = (wB M.water 0 9999 && spanB M.lkLo M.lkHi 0 20 && wB M.wrong 0 6) by rw [validMB, hall2.out, hall3.out]; simp [hn1, hn2])
          clear hall
          cases h1 : wB M.water 0 9999
          case false =>
            have H1 := Lib.hid h1
            clear h1
            go_wp2_with (go_at_call 76; refine (vwithin_to H1.out _).mono ?_; rintro e w' ⟨rfl, rfl⟩)
            go_ret
            exact ⟨ret_bool (by rw [HV.out, H1.out]; simp), HW1.out⟩
          have H1 := Lib.hid h1
          clear h1
          cases h2 : spanB M.lkLo M.lkHi 0 20
          case false =>
            have H2 := Lib.hid h2
            clear h2
            go_wp2_with (first | (go_at_call 76; refine (vwithin_to H1.out _).mono ?_; rintro e w' ⟨rfl, rfl⟩) | (go_at_call 83; refine (validSpan_to H2.out _).mono ?_; rintro e w' ⟨rfl, hb2⟩; have HFIN := Lib.hid (hb2.mono (show w.heap.size ≤ wr.heap.size by omega)); clear hb2))
            go_ret
            exact ⟨ret_bool (by rw [HV.out, H2.out]; simp), HW1.out.trans HFIN.out⟩
          have H2 := Lib.hid h2
          clear h2
          obtain ⟨r, h3⟩ : ∃ r, wB M.wrong 0 6 = r := ⟨_, rfl⟩
          have H3 := Lib.hid h3
          clear h3
          go_wp2_with (first | (go_at_call 76; refine (vwithin_any _ _ _ _).mono ?_; rintro e w' ⟨rfl, rfl⟩; first | rw [H1.out] | rw [H3.out]) | (go_at_call 83; refine (validSpan_to H2.out _).mono ?_; rintro e w' ⟨rfl, hb2⟩; have HFIN := Lib.hid (hb2.mono (show w.heap.size ≤ wr.heap.size by omega)); obtain ⟨y0, y1, y2, y3, y4, y5⟩ := cells6 (((HBL.out.trans (hb2.mono (by omega))).block w.heap.size (by omega)).trans (heap_new w _)); clear hb2))
          go_ret
          exact ⟨ret_bool (by rw [HV.out, H1.out, H2.out, H3.out]; simp), HW1.out.trans HFIN.out⟩

theorem valid_to {v : Value} {M : Mach} {r : Bool} (h : validMB M = r) (w : World) (hx : MachAt w.heap.size w v M) :
    Calls Try.prog 71 #[v] w fun e w' => e = .returned (.bool r) ∧ Below w.heap.size w w' := h ▸ valid_any v M w hx
def chkM (M : Mach) : Int := if validMB M = true then 0 else 30
set_option maxRecDepth 100000 in
set_option maxHeartbeats 400000 in
theorem check_any (v : Value) (M : Mach) (w : World) (hx : MachAt w.heap.size w v M) :
    Calls Try.prog 40 #[v] w fun e w' => e = .returned (.int .i64 (chkM M)) ∧ Below w.heap.size w w' := by
  have hx' := hx
  obtain ⟨a, cap, b, off, a2, cap2, b2, off2, rfl, _⟩ := hx.opened
  have HX := fun o => Lib.hid ((hx'.below ((Below.refl _ w).alloc (Nat.le_refl _) o)).mono (show w.heap.size ≤ (w.alloc o).heap.size by simp))
  clear hx hx'
  go_enter Try.func40, Try.ntmps40
  cases hr : validMB M
  all_goals
    have HQ := Lib.hid hr
    clear hr
    go_wp2_with (go_at_call 71; refine (valid_to HQ.out _ (HX _).out).mono ?_; rintro e w' ⟨rfl, hb⟩)
    go_ret
    exact ⟨by rw [chkM, HQ.out]; rfl, ((Below.refl _ _).alloc (Nat.le_refl _) _).trans (hb.mono (by simp))⟩
theorem check_to {v : Value} {M : Mach} {r : Int} (h : chkM M = r) (w : World) (hx : MachAt w.heap.size w v M) :
    Calls Try.prog 40 #[v] w fun e w' => e = .returned (.int .i64 r) ∧ Below w.heap.size w w' := h ▸ check_any v M w hx
end Go.Proofs.Ytomcjopcfdllgaa

namespace Go.Proofs.Ytomcjopcfdllgaa
open Go.RowKit

set_option maxRecDepth 100000 in
set_option maxHeartbeats 2000000 in
theorem pulls_any (M : Mach) (hV : ValidM M) (pb : Nat) (a0 a1 a2 leak weight minutes load : Int) (w : World) (hb : pb < w.heap.size) (hw : 0 ≤ weight ∧ weight ≤ 9999) (hm : 0 ≤ minutes ∧ minutes ≤ 99) (hld : 0 ≤ load ∧ load ≤ 999999999) (hl : 0 ≤ leak ∧ leak ≤ 20) (h0 : 1 ≤ a0 ∧ a0 ≤ 1000) (h1 : 1 ≤ a1 ∧ a1 ≤ 1000) (h2 : 1 ≤ a2 ∧ a2 ≤ 1000)
    (c1 : w.cell? ⟨pb, 1, none⟩ = some (.int .i64 M.water)) (c12 : w.cell? ⟨pb, 12, none⟩ = some (.int .i64 (longP M.levers))) :
    Calls Try.prog 65 #[.pointer (some ⟨pb, 0, none⟩), .agg #[.int .i64 a0, .int .i64 a1, .int .i64 a2, .int .i64 leak], .int .i64 weight, .int .i64 minutes, .int .i64 load] w fun e w' => e = .returned (.bool (pullsB M weight minutes load leak (a0 * a1 * a2))) ∧ Below w.heap.size w w' := by
  have HF := Lib.hid (fun (W : World) (hW : Below w.heap.size w W) => force_any M hV pb weight minutes leak W hw hm hl ((hW.cell hb).trans c1) ((hW.cell hb).trans c12))
  have HP := Lib.hid (fun (W : World) => product_any a0 a1 a2 leak W h0 h1 h2)
  obtain ⟨f1, f2⟩ := force_ok hV hw hm.1 hl.1 (minutes := minutes)
  have e1 : 0 ≤ a0 * a1 := Int.mul_nonneg (by omega) (by omega)
  have e2 : a0 * a1 ≤ 1000 * 1000 := mul_mono (by omega) (by omega) h0.2 h1.2
  have e3 : 0 ≤ a0 * a1 * a2 := Int.mul_nonneg e1 (by omega)
  have e4 : a0 * a1 * a2 ≤ 1000 * 1000 * 1000 := mul_mono e1 (by omega) e2 h2.2
  unfold pullsB
  obtain ⟨FV, hFV⟩ : ∃ x, force M weight minutes leak = x := ⟨_, rfl⟩
  obtain ⟨P, hP⟩ : ∃ x, a0 * a1 * a2 = x := ⟨_, rfl⟩
  rw [hFV] at HF f1 f2 ⊢
  rw [hP] at HP e3 e4 ⊢
  have e5 : 0 ≤ load * P := Int.mul_nonneg hld.1 e3
  have e6 : load * P ≤ 999999999 * 1000000000 := mul_mono hld.1 e3 hld.2 (by omega)
  obtain ⟨X, hX⟩ : ∃ X, load * P = X := ⟨_, rfl⟩
  have w1 : wrap64 (load * P) = X := by rw [hX] at e5 e6 ⊢; exact wrap_in (by omega)
  have w2 : IntKind.i64.wrap (load * P) = X := by rw [hX] at e5 e6 ⊢; exact IntWalk.i64_in _ (by omega)
  rw [hX]
  clear hX hP hFV c1 c12 e1 e2 e3 e4 e5 e6 f1 f2 h0 h1 h2
  have HX : Hid (∀ W, Below w.heap.size w W → W.heap[w.heap.size]? = some (.cells #[.int .i64 a0, .int .i64 a1, .int .i64 a2, .int .i64 leak] 83) → True) := fun _ _ _ => trivial
  by_cases hc : X ≤ FV
  all_goals
    go_enter Try.func65, Try.ntmps65
    go_wp2
    go_region_with (first | (go_at_call 61; refine (HF.out _ (by go_grown)).mono ?_; rintro e w' ⟨rfl, rfl⟩) | (go_at_call 62; refine (HP.out _).mono ?_; rintro e w' ⟨rfl, hb2⟩; obtain ⟨q0, q1, q2, q3⟩ := cells4 ((hb2.block w.heap.size (by simp)).trans (heap_new w _)); have HFIN := Lib.hid ((show Below w.heap.size w _ by go_grown).trans (hb2.mono (by simp))); clear hb2))
    all_goals go_wp2
    all_goals go_ret
    all_goals exact ⟨ret_bool (by simp [hc]), HFIN.out⟩
end Go.Proofs.Ytomcjopcfdllgaa

namespace Go.Proofs.Ytomcjopcfdllgaa
open Go.RowKit

/-- The short arm of lever i, where lever lev has a and the two others q. -/
def armOf (lev : Nat) (a : Int) (q : Int × Int) (i : Nat) : Int := if i = lev then a else if i = (lev + 1) % 3 then q.1 else q.2
theorem armOf_prod {lev : Nat} (hl : lev < 3) (a : Int) (q : Int × Int) : armOf lev a q 0 * armOf lev a q 1 * armOf lev a q 2 = a * (q.1 * q.2) := by
  have h3 : lev = 0 ∨ lev = 1 ∨ lev = 2 := by omega
  rcases h3 with rfl | rfl | rfl
  · simp [armOf, Int.mul_assoc]
  · simp only [armOf]; simp; rw [Int.mul_comm q.2 a, Int.mul_assoc, Int.mul_comm q.2 q.1]
  · simp only [armOf]; simp; rw [Int.mul_comm (q.1 * q.2) a]
theorem armOf_self {lev : Nat} {a : Int} {q : Int × Int} : armOf lev a q lev = a := by simp [armOf]
theorem heap3 (w : World) (o1 o2 o3 : Obj) : (((w.alloc o1).alloc o2).alloc o3).heap[w.heap.size]? = some o1 ∧ (((w.alloc o1).alloc o2).alloc o3).heap[w.heap.size + 1]? = some o2 ∧ (((w.alloc o1).alloc o2).alloc o3).heap[w.heap.size + 1 + 1]? = some o3 := by
  refine ⟨?_, ?_, ?_⟩
  · rw [Below.heap_alloc _ _ _ (by simp; omega), Below.heap_alloc _ _ _ (by simp)]; exact heap_new w o1
  · rw [Below.heap_alloc _ _ _ (by simp)]
    have := heap_new (w.alloc o1) o2
    simpa using this
  · have := heap_new ((w.alloc o1).alloc o2) o3
    simpa using this
def put4 (w : World) (b : Nat) (v0 v1 v2 v3 : Value) : World := (((w.setCell ⟨b, 0, none⟩ v0).setCell ⟨b, 1, none⟩ v1).setCell ⟨b, 2, none⟩ v2).setCell ⟨b, 3, none⟩ v3
theorem put4_heap {w : World} {b : Nat} {v0 v1 v2 v3 z0 z1 z2 z3 : Value} {t : TypeId} (h : w.heap[b]? = some (.cells #[z0, z1, z2, z3] t)) : (put4 w b v0 v1 v2 v3).heap[b]? = some (.cells #[v0, v1, v2, v3] t) := by
  unfold put4
  rw [heap_setCell_same (heap_setCell_same (heap_setCell_same (heap_setCell_same h)))]
  rfl
theorem put4_below {B : Nat} {w W : World} {b : Nat} {v0 v1 v2 v3 : Value} (h : Below B w W) (hb : B ≤ b) : Below B w (put4 W b v0 v1 v2 v3) := below_setCell (below_setCell (below_setCell (below_setCell h hb) hb) hb) hb
/-- What is in it after k of the two others. -/
def setTo (lev : Nat) (a : Int) (q : Int × Int) (k i : Nat) : Int := if i = lev then a else if i = (lev + 1) % 3 then (if 0 < k then q.1 else 0) else if 1 < k then q.2 else 0
theorem cell2_of {W : World} {b : Nat} {v0 v1 : Value} {t : TypeId} (e : W.heap[b]? = some (.cells #[v0, v1] t)) : W.cell? ⟨b, 0, none⟩ = some v0 ∧ W.cell? ⟨b, 1, none⟩ = some v1 := by
  refine ⟨?_, ?_⟩ <;> simp [World.cell?, e]
theorem froz {W : World} {b : Nat} {arr : Array Value} {t : TypeId} (e : W.heap[b]? = some (.cells arr t)) (i : Nat) : W.frozen? ⟨b, i, none⟩ = false := frozen_of e i

set_option maxRecDepth 100000 in
set_option maxHeartbeats 4000000 in
theorem setting_any (pb lev : Nat) (hl : lev < 3) (k a : Int) (q : Int × Int) (w : World) (hb : pb < w.heap.size)
    (c13 : w.cell? ⟨pb, 13, none⟩ = some (.int .i64 lev)) (c14 : w.cell? ⟨pb, 14, none⟩ = some (.int .i64 ((lev + 1) % 3 : Nat))) (c15 : w.cell? ⟨pb, 15, none⟩ = some (.int .i64 ((lev + 2) % 3 : Nat))) :
    Calls Try.prog 89 #[.pointer (some ⟨pb, 0, none⟩), .int .i64 k, .int .i64 a, .agg #[.int .i64 q.1, .int .i64 q.2]] w fun e w' => e = .returned (.agg #[.int .i64 (armOf lev a q 0), .int .i64 (armOf lev a q 1), .int .i64 (armOf lev a q 2), .int .i64 k]) ∧ Below w.heap.size w w' := by
  obtain ⟨q1, q2⟩ := q
  have i0 : ∀ (x y : Int) w, (Instr.index 94 (.agg #[.int .i64 x, .int .i64 y]) (.int .i64 0)).run Try.prog w = .ok (.int .i64 x) w := fun _ _ _ => by kernel_rfl
  have i1 : ∀ (x y : Int) w, (Instr.index 94 (.agg #[.int .i64 x, .int .i64 y]) (.int .i64 1)).run Try.prog w = .ok (.int .i64 y) w := fun _ _ _ => by kernel_rfl
  obtain ⟨L0, e0⟩ : ∃ x : Int, ((lev : Nat) : Int) = x := ⟨_, rfl⟩
  obtain ⟨L1, e1⟩ : ∃ x : Int, (((lev + 1) % 3 : Nat) : Int) = x := ⟨_, rfl⟩
  obtain ⟨L2, e2⟩ : ∃ x : Int, (((lev + 2) % 3 : Nat) : Int) = x := ⟨_, rfl⟩
  rw [e0] at c13
  rw [e1] at c14
  rw [e2] at c15
  have h3 : (lev = 0 ∧ L0 = 0 ∧ L1 = 1 ∧ L2 = 2) ∨ (lev = 1 ∧ L0 = 1 ∧ L1 = 2 ∧ L2 = 0) ∨ (lev = 2 ∧ L0 = 2 ∧ L1 = 0 ∧ L2 = 1) := by omega
  clear e0 e1 e2
  rcases h3 with ⟨rfl, rfl, rfl, rfl⟩ | ⟨rfl, rfl, rfl, rfl⟩ | ⟨rfl, rfl, rfl, rfl⟩
  case' inl => obtain ⟨LV, hLV⟩ : ∃ x, x = 0 := ⟨_, rfl⟩
  case' inr.inl => obtain ⟨LV, hLV⟩ : ∃ x, x = 1 := ⟨_, rfl⟩
  case' inr.inr => obtain ⟨LV, hLV⟩ : ∃ x, x = 2 := ⟨_, rfl⟩
  all_goals
    have HLV := Lib.hid hLV
    clear hLV
    have hg : ∀ o1 o2 o3, Below w.heap.size w (((w.alloc o1).alloc o2).alloc o3) := fun _ _ _ => by go_grown
    have d13 := fun o1 o2 o3 => ((hg o1 o2 o3).cell hb).trans c13
    have d14 := fun o1 o2 o3 => ((hg o1 o2 o3).cell hb).trans c14
    have d15 := fun o1 o2 o3 => ((hg o1 o2 o3).cell hb).trans c15
    clear hg
    go_enter Try.func89, Try.ntmps89
    go_wp2
    go_loopw [25] (fun oi wr => ∃ k' : Nat, k' ≤ 2 ∧ oi = .int .i64 k' ∧ Below w.heap.size w wr ∧ wr.heap[w.heap.size]? = some (.cells #[.int .i64 q1, .int .i64 q2] 94) ∧
      wr.heap[w.heap.size + 1]? = some (.cells #[.int .i64 0, .int .i64 0, .int .i64 0, .int .i64 0] 83) ∧ wr.heap[w.heap.size + 1 + 1]? = some (.cells #[.int .i64 (setTo LV a (q1, q2) k' 0), .int .i64 (setTo LV a (q1, q2) k' 1), .int .i64 (setTo LV a (q1, q2) k' 2), .int .i64 k] 83)) (fun i _ => 2 - (intOf i).toNat)
    case atStart =>
      obtain ⟨n0, n1, n2⟩ := heap3 w (.cells #[.int .i64 q1, .int .i64 q2] 94) (.cells #[.int .i64 0, .int .i64 0, .int .i64 0, .int .i64 0] 83) (.cells #[.int .i64 (setTo LV a (q1, q2) 0 0), .int .i64 (setTo LV a (q1, q2) 0 1), .int .i64 (setTo LV a (q1, q2) 0 2), .int .i64 k] 83)
      obtain rfl := HLV.out
      exact ⟨0, by omega, rfl, by go_grown, n0, n1, n2⟩
    case round =>
      obtain ⟨k', hk, rfl, hbl, hx0, hx1, hx2⟩ := hrel
      obtain ⟨b0, b1⟩ := cell2_of hx0
      have z2 := froz hx2
      obtain ⟨u0, u1, u2, u3⟩ := cells4 hx1
      obtain ⟨y0, y1, y2, y3⟩ := cells4 hx2
      have z1 := froz hx1
      have HB := Lib.hid hbl
      have HX0 := Lib.hid hx0
      have HX1 := Lib.hid hx1
      have HX2 := Lib.hid hx2
      clear hbl hx0 hx1 hx2
      have hk3 : k' = 0 ∨ k' = 1 ∨ k' = 2 := by omega
      rcases hk3 with rfl | rfl | rfl
      · go_wp2
        refine ⟨⟨1, by omega, by go_num, below_setCell HB.out (by omega), (heap_setCell_other (by omega)).trans HX0.out, (heap_setCell_other (by omega)).trans HX1.out, ?_⟩, by simp [intOf]⟩
        rw [heap_setCell_same HX2.out]; simp [setTo, HLV.out]
      · go_wp2
        refine ⟨⟨2, by omega, by go_num, below_setCell HB.out (by omega), (heap_setCell_other (by omega)).trans HX0.out, (heap_setCell_other (by omega)).trans HX1.out, ?_⟩, by simp [intOf]⟩
        rw [heap_setCell_same HX2.out]; simp [setTo, HLV.out]
      · go_wp2
        have hput := put4_heap (v0 := .int .i64 (setTo LV a (q1, q2) 2 0)) (v1 := .int .i64 (setTo LV a (q1, q2) 2 1)) (v2 := .int .i64 (setTo LV a (q1, q2) 2 2)) (v3 := .int .i64 k) HX1.out
        obtain ⟨r0, r1, r2, r3⟩ := cells4 hput
        have hbf := put4_below (v0 := .int .i64 (setTo LV a (q1, q2) 2 0)) (v1 := .int .i64 (setTo LV a (q1, q2) 2 1)) (v2 := .int .i64 (setTo LV a (q1, q2) 2 2)) (v3 := .int .i64 k) HB.out (show w.heap.size ≤ w.heap.size + 1 by omega)
        unfold put4 at r0 r1 r2 r3 hbf
        refine bodyPost_ret (v := .agg #[.int .i64 (setTo LV a (q1, q2) 2 0), .int .i64 (setTo LV a (q1, q2) 2 1), .int .i64 (setTo LV a (q1, q2) 2 2), .int .i64 k]) (by simp [results, Try.results89, go_sem, r0, r1, r2, r3]) rfl ?_
        exact ⟨by simp [armOf, setTo, HLV.out], hbf⟩
end Go.Proofs.Ytomcjopcfdllgaa

namespace Go.Proofs.Ytomcjopcfdllgaa
open Go.RowKit

def offN (A B : Int × Int) (q : Int × Int) : Nat := (q.1 * q.2 - A.1 * B.1).toNat
/-- The pairs that came before (x, y). -/
def doneL (A B : Int × Int) (x y : Int) : List (Int × Int) := pairsL (A.1, x - 1) B ++ (rangeL B.1 (y - 1)).map (fun v => (x, v))
theorem range_snoc {lo y : Int} (h : lo ≤ y) : rangeL lo y = rangeL lo (y - 1) ++ [y] := by
  obtain ⟨k, rfl⟩ : ∃ k : Nat, y = lo + k := ⟨(y - lo).toNat, by omega⟩
  unfold rangeL
  rw [show (lo + (k : Int) - lo + 1).toNat = k + 1 by omega, show (lo + (k : Int) - 1 - lo + 1).toNat = k by omega, List.range_succ, List.map_append]
  rfl
theorem range_none {lo : Int} : rangeL lo (lo - 1) = [] := by
  unfold rangeL
  rw [show (lo - 1 - lo + 1).toNat = 0 by omega]
  rfl
theorem done_step {A B : Int × Int} {x y : Int} (h : B.1 ≤ y) : doneL A B x (y + 1) = doneL A B x y ++ [(x, y)] := by
  unfold doneL
  rw [show y + 1 - 1 = y by omega, range_snoc h, List.map_append, List.append_assoc]
  rfl
theorem done_row {A B : Int × Int} {x : Int} (h : A.1 ≤ x) : doneL A B x (B.2 + 1) = doneL A B (x + 1) B.1 := by
  unfold doneL pairsL
  rw [show B.2 + 1 - 1 = B.2 by omega, range_none, show x + 1 - 1 = x by omega]
  dsimp only
  rw [range_snoc h, List.flatMap_append]
  simp
theorem done_none {A B : Int × Int} : doneL A B A.1 B.1 = [] := by
  unfold doneL pairsL
  rw [range_none, range_none]
  rfl
theorem done_all {A B : Int × Int} : doneL A B (A.2 + 1) B.1 = pairsL A B := by
  unfold doneL
  rw [range_none, show A.2 + 1 - 1 = A.2 by omega]
  simp
def wayI (A B : Int × Int) (ps : List (Int × Int)) (i : Nat) : Int := (tally (ps.map (offN A B)) i : Nat)
def armI (A B : Int × Int) (ps : List (Int × Int)) (i : Nat) : Int := ps.foldl (fun v q => if offN A B q = i then q.1 else v) 0
theorem wayI_snoc (A B : Int × Int) (ps : List (Int × Int)) (q : Int × Int) (i : Nat) : wayI A B (ps ++ [q]) i = if i = offN A B q then wayI A B ps i + 1 else wayI A B ps i := by
  unfold wayI
  rw [List.map_append, List.map_cons, List.map_nil, tally_snoc]
  by_cases h : offN A B q = i
  · rw [if_pos h, if_pos h.symm]; omega
  · rw [if_neg h, if_neg (fun e => h e.symm)]; omega
theorem armI_snoc (A B : Int × Int) (ps : List (Int × Int)) (q : Int × Int) (i : Nat) : armI A B (ps ++ [q]) i = if i = offN A B q then q.1 else armI A B ps i := by
  unfold armI
  rw [List.foldl_append, List.foldl_cons, List.foldl_nil]
  by_cases h : offN A B q = i
  · rw [if_pos h, if_pos h.symm]
  · rw [if_neg h, if_neg (fun e => h e.symm)]
theorem wayI_all (A B : Int × Int) (i : Nat) : wayI A B (pairsL A B) i = (wayN A B i : Nat) := rfl
theorem armI_all (A B : Int × Int) (i : Nat) : armI A B (pairsL A B) i = armAt A B i := rfl
theorem tally_le (vs : List Nat) (i : Nat) : tally vs i ≤ vs.length := List.length_filter_le _ _
theorem pairs_len {A B : Int × Int} : (pairsL A B).length = (A.2 - A.1 + 1).toNat * (B.2 - B.1 + 1).toNat := by
  unfold pairsL
  have h1 : ∀ lo hi : Int, (rangeL lo hi).length = (hi - lo + 1).toNat := fun lo hi => by simp [rangeL]
  have h2 : ∀ l : List Int, (l.flatMap (fun x => (rangeL B.1 B.2).map (fun y => (x, y)))).length = l.length * (B.2 - B.1 + 1).toNat := fun l => by
    induction l with
    | nil => simp
    | cons x l ih => rw [List.flatMap_cons, List.length_append, ih, List.length_map, h1, List.length_cons, Nat.succ_mul]; omega
  rw [h2, h1]
theorem pairs_le {A B : Int × Int} (hA : 1 ≤ A.1 ∧ A.2 ≤ 1000) (hB : 1 ≤ B.1 ∧ B.2 ≤ 1000) : (pairsL A B).length ≤ 1000000 := by
  rw [pairs_len]
  exact Nat.le_trans (Nat.mul_le_mul (show (A.2 - A.1 + 1).toNat ≤ 1000 by omega) (show (B.2 - B.1 + 1).toNat ≤ 1000 by omega)) (by decide)
theorem done_prefix {A B : Int × Int} {x y : Int} (hx : x ≤ A.2) (hy : y ≤ B.2 + 1) (hx0 : A.1 ≤ x) (hy0 : B.1 ≤ y) : doneL A B x y <+: pairsL A B := by
  obtain ⟨a, ha⟩ : ∃ a : Nat, A.2 = x + a := ⟨(A.2 - x).toNat, by omega⟩
  obtain ⟨b, hb⟩ : ∃ b : Nat, B.2 + 1 = y + b := ⟨(B.2 + 1 - y).toNat, by omega⟩
  have h1 : ∀ (b : Nat) (y : Int), B.1 ≤ y → doneL A B x y <+: doneL A B x (y + b) := fun b => by
    induction b with
    | zero => intro y _; rw [Int.natCast_zero, Int.add_zero]; exact List.prefix_rfl
    | succ b ih =>
      intro y hy
      refine (ih y hy).trans ?_
      rw [show y + ((b + 1 : Nat) : Int) = y + b + 1 by omega, done_step (by omega)]
      exact List.prefix_append _ _
  have h2 : ∀ (a : Nat) (x : Int), A.1 ≤ x → doneL A B x B.1 <+: doneL A B (x + a) B.1 := fun a => by
    induction a with
    | zero => intro x _; rw [Int.natCast_zero, Int.add_zero]; exact List.prefix_rfl
    | succ a ih =>
      intro x hx
      refine (ih x hx).trans ?_
      rw [show x + ((a + 1 : Nat) : Int) = x + a + 1 by omega, ← done_row (by omega)]
      obtain ⟨c, hc⟩ : ∃ c : Nat, B.2 + 1 = B.1 + c := ⟨(B.2 + 1 - B.1).toNat, by omega⟩
      rw [hc]
      have h1' : ∀ (b : Nat) (y : Int), B.1 ≤ y → doneL A B (x + a) y <+: doneL A B (x + a) (y + b) := fun b => by
        induction b with
        | zero => intro y _; rw [Int.natCast_zero, Int.add_zero]; exact List.prefix_rfl
        | succ b ih =>
          intro y hy
          refine (ih y hy).trans ?_
          rw [show y + ((b + 1 : Nat) : Int) = y + b + 1 by omega, done_step (by omega)]
          exact List.prefix_append _ _
      exact h1' c B.1 (Int.le_refl _)
  have e1 := h1 b y hy0
  rw [← hb, done_row hx0] at e1
  have e2 := h2 a (x + 1) (by omega)
  rw [show x + 1 + (a : Int) = A.2 + 1 by omega, done_all] at e2
  exact e1.trans e2
theorem way_le {A B : Int × Int} (hA : 1 ≤ A.1 ∧ A.2 ≤ 1000) (hB : 1 ≤ B.1 ∧ B.2 ≤ 1000) {x y : Int} (hx : x ≤ A.2) (hy : y ≤ B.2 + 1) (hx0 : A.1 ≤ x) (hy0 : B.1 ≤ y) (i : Nat) : 0 ≤ wayI A B (doneL A B x y) i ∧ wayI A B (doneL A B x y) i ≤ 1000000 := by
  have h1 := (done_prefix (A := A) (B := B) hx hy hx0 hy0).length_le
  have h2 := pairs_le hA hB
  have h3 := tally_le ((doneL A B x y).map (offN A B)) i
  rw [List.length_map] at h3
  unfold wayI
  omega

/-- Block b is a row of N numbers. -/
def RowAt (b N : Nat) (f : Nat → Int) (W : World) : Prop :=
  ∃ arr, W.heap[b]? = some (.cells arr 3) ∧ arr.size = N ∧ ∀ i, i < N → arr[i]? = some (.int .i64 (f i))
theorem RowAt.cell {b N : Nat} {f : Nat → Int} {W : World} (h : RowAt b N f W) {i : Nat} (hi : i < N) : W.cell? ⟨b, i, none⟩ = some (.int .i64 (f i)) := by
  obtain ⟨arr, h1, h2, h3⟩ := h
  rw [cell_of h1]; exact h3 i hi
theorem RowAt.frozen {b N : Nat} {f : Nat → Int} {W : World} (h : RowAt b N f W) (i : Nat) : W.frozen? ⟨b, i, none⟩ = false := by
  obtain ⟨arr, h1, _⟩ := h
  exact frozen_of h1 i
theorem RowAt.lt {b N : Nat} {f : Nat → Int} {W : World} (h : RowAt b N f W) : b < W.heap.size := by
  obtain ⟨arr, h1, _⟩ := h
  exact heap_lt h1
theorem RowAt.kept {b N : Nat} {f : Nat → Int} {W W' : World} (h : RowAt b N f W) (hk : W'.heap[b]? = W.heap[b]?) : RowAt b N f W' := by
  obtain ⟨arr, h1, h2⟩ := h
  exact ⟨arr, hk.trans h1, h2⟩
theorem RowAt.set {b N : Nat} {f : Nat → Int} {W : World} (h : RowAt b N f W) {o : Nat} (ho : o < N) (x : Int) : RowAt b N (fun i => if i = o then x else f i) (W.setCell ⟨b, o, none⟩ (.int .i64 x)) := by
  obtain ⟨arr, h1, h2, h3⟩ := h
  refine ⟨_, heap_setCell_same h1, by simp [h2], fun i hi => ?_⟩
  by_cases e : i = o
  · subst e; simp [h2, ho]
  · rw [Array.getElem?_setIfInBounds_ne (by omega)]; simp only [if_neg e]; exact h3 i hi
theorem RowAt.congr {b N : Nat} {f g : Nat → Int} {W : World} (h : RowAt b N f W) (e : ∀ i, f i = g i) : RowAt b N g W := by
  obtain rfl : f = g := funext e
  exact h
theorem row_new (w : World) (n : Nat) : RowAt w.heap.size n (fun _ => 0) (w.alloc (.cells (madeCells #[.int .i64 0] n) 3)) := by
  refine ⟨_, heap_new w _, by simp [size_madeCells], fun i hi => ?_⟩
  simp [madeCells, hi, Nat.mod_one]
end Go.Proofs.Ytomcjopcfdllgaa

namespace Go.Proofs.Ytomcjopcfdllgaa
open Go.RowKit

theorem own_keep {own : Nat → Prop} {w W : World} {base : Nat} {e : TypeId} {size : Nat} {v : Value} {n : Nat} {xs : List Value} (h : w.ownsRow base e size v n xs) (hk : KeptBut own w W) (ho : ∀ b, v.ownBlock = some b → ¬ own b) : W.ownsRow base e size v n xs := by
  refine ⟨h.1, ?_⟩
  rcases h.2 with hn | ⟨g, cap, cur, rfl, hb, hgg, rest⟩
  · exact .inl hn
  · exact .inr ⟨g, cap, cur, rfl, hb, (hk.block g (heap_lt hgg) (ho g rfl)).trans hgg, rest⟩
/-- What a new slice of one cell holds. -/
def qCells (ps : List (Int × Int)) : List Value := ps.flatMap (fun q => [.int .i64 q.1, .int .i64 q.2])
theorem qCells_snoc (ps : List (Int × Int)) (q : Int × Int) : qCells (ps ++ [q]) = qCells ps ++ [.int .i64 q.1, .int .i64 q.2] := by simp [qCells]
theorem qCells_len (ps : List (Int × Int)) : (qCells ps).length = ps.length * 2 := by
  induction ps with
  | nil => rfl
  | cons q ps ih => simp only [qCells, List.flatMap_cons, List.length_append, List.length_cons, List.length_nil] at ih ⊢; omega
theorem qCells_at : ∀ (ps : List (Int × Int)) {i : Nat} (_ : i < ps.length), (qCells ps)[i * 2]? = some (.int .i64 (ps.getD i (0, 0)).1) ∧ (qCells ps)[i * 2 + 1]? = some (.int .i64 (ps.getD i (0, 0)).2)
  | q :: ps, 0, _ => ⟨rfl, rfl⟩
  | q :: ps, i + 1, h => by
    have := qCells_at ps (i := i) (by simpa using h)
    have e : qCells (q :: ps) = .int .i64 q.1 :: .int .i64 q.2 :: qCells ps := rfl
    rw [e, show (i + 1) * 2 = i * 2 + 1 + 1 by omega, List.getElem?_cons_succ, List.getElem?_cons_succ, List.getElem?_cons_succ, List.getElem?_cons_succ, List.getD_cons_succ]
    exact this
/-- The pairs while they are kept: b4 is their box, b2 the result's. -/
structure Pr (w : World) (b2 b4 bw ba R : Nat) (f g : Nat → Int) (L : Int) (ps : List (Int × Int)) (ms ls : List Int) (av mv sv : Value) (W : World) : Prop where
  box : W.heap[b4]? = some (.cells #[av, mv, .int .i64 L, sv] 97)
  a : W.ownsRow w.heap.size 94 2 av ps.length (qCells ps)
  m : W.ownsRow w.heap.size 3 1 mv ms.length (ms.map (Value.int .i64))
  l : W.ownsRow w.heap.size 3 1 sv ls.length (ls.map (Value.int .i64))
  am : ∀ b, av.ownBlock = some b → mv.ownBlock ≠ some b ∧ sv.ownBlock ≠ some b
  ml : ∀ b, mv.ownBlock = some b → sv.ownBlock ≠ some b
  fr : ∀ b, av.ownBlock = some b ∨ mv.ownBlock = some b ∨ sv.ownBlock = some b → b ≠ b2 ∧ b ≠ b4 ∧ b ≠ bw ∧ b ≠ ba
  ways : RowAt bw R f W
  arms : RowAt ba R g W
  res : W.heap[b2]? = some (.cells #[.slice none 0 0, .slice none 0 0, .int .i64 0, .slice none 0 0] 97)
  below : Below w.heap.size w W
  lo : w.heap.size ≤ b4 ∧ w.heap.size ≤ b2 ∧ b2 ≠ b4 ∧ b4 ≠ bw ∧ b4 ≠ ba

section
variable {w : World} {b2 b4 bw ba R : Nat} {f g : Nat → Int} {L : Int} {ps : List (Int × Int)} {ms ls : List Int} {av mv sv : Value} {W W2 : World}
theorem Pr.lts (h : Pr w b2 b4 bw ba R f g L ps ms ls av mv sv W) : b2 < W.heap.size ∧ b4 < W.heap.size ∧ bw < W.heap.size ∧ ba < W.heap.size := ⟨heap_lt h.res, heap_lt h.box, h.ways.lt, h.arms.lt⟩
/-- The blocks that rows own, below the heap's end. -/
theorem Pr.own_lt (h : Pr w b2 b4 bw ba R f g L ps ms ls av mv sv W) : ∀ b, av.ownBlock = some b ∨ mv.ownBlock = some b ∨ sv.ownBlock = some b → w.heap.size ≤ b ∧ b < W.heap.size := fun b hb => by
  rcases hb with hb | hb | hb
  · exact h.a.lt b hb
  · exact h.m.lt b hb
  · exact h.l.lt b hb
theorem Pr.armed (h : Pr w b2 b4 bw ba R f g L ps ms ls av mv sv W) {q : Int × Int} {av' : Value} (hk : KeptBut (fun b => av.ownBlock = some b ∨ b = b4) W W2) (hbox : W2.heap[b4]? = some (.cells #[av', mv, .int .i64 L, sv] 97))
    (hown : W2.ownsRow w.heap.size 94 2 av' (ps.length + 1) (qCells ps ++ [.int .i64 q.1, .int .i64 q.2])) (hn : ∀ b, av'.ownBlock = some b → av.ownBlock = some b ∨ W.heap.size ≤ b) : Pr w b2 b4 bw ba R f g L (ps ++ [q]) ms ls av' mv sv W2 := by
  have hl := h.lts
  have ho := h.own_lt
  refine ⟨hbox, by rw [qCells_snoc, List.length_append]; exact hown, own_keep h.m hk ?_, own_keep h.l hk ?_, fun b hb => ?_, h.ml, fun b hb => ?_, h.ways.kept (hk.block _ hl.2.2.1 ?_), h.arms.kept (hk.block _ hl.2.2.2 ?_), (hk.block _ hl.1 ?_).trans h.res, h.below.trans (hk.below h.below.size ?_), h.lo⟩
  · rintro b hb (e | e)
    · exact (h.am b e).1 hb
    · exact (h.fr b (.inr (.inl hb))).2.1 e
  · rintro b hb (e | e)
    · exact (h.am b e).2 hb
    · exact (h.fr b (.inr (.inr hb))).2.1 e
  · rcases hn b hb with e | e
    · exact h.am b e
    · exact ⟨fun e2 => by have := (ho b (.inr (.inl e2))).2; omega, fun e2 => by have := (ho b (.inr (.inr e2))).2; omega⟩
  · rcases hb with hb | hb
    · rcases hn b hb with e | e
      · exact h.fr b (.inl e)
      · exact ⟨by omega, by omega, by omega, by omega⟩
    · exact h.fr b (.inr hb)
  · rintro (e | e)
    · exact (h.fr _ (.inl e)).2.2.1 rfl
    · exact h.lo.2.2.2.1 e.symm
  · rintro (e | e)
    · exact (h.fr _ (.inl e)).2.2.2 rfl
    · exact h.lo.2.2.2.2 e.symm
  · rintro (e | e)
    · exact (h.fr _ (.inl e)).1 rfl
    · exact h.lo.2.2.1 e
  · rintro k (e | e)
    · exact (ho k (.inl e)).1
    · rw [e]; exact h.lo.1
theorem Pr.counted (h : Pr w b2 b4 bw ba R f g L ps ms ls av mv sv W) {x : Int} {mv' : Value} (hk : KeptBut (fun b => mv.ownBlock = some b ∨ b = b4) W W2) (hbox : W2.heap[b4]? = some (.cells #[av, mv', .int .i64 L, sv] 97))
    (hown : W2.ownsRow w.heap.size 3 1 mv' (ms.length + 1) (ms.map (Value.int .i64) ++ [.int .i64 x])) (hn : ∀ b, mv'.ownBlock = some b → mv.ownBlock = some b ∨ W.heap.size ≤ b) : Pr w b2 b4 bw ba R f g L ps (ms ++ [x]) ls av mv' sv W2 := by
  have hl := h.lts
  have ho := h.own_lt
  refine ⟨hbox, own_keep h.a hk ?_, by rw [List.map_append, List.length_append]; exact hown, own_keep h.l hk ?_, fun b hb => ?_, fun b hb => ?_, fun b hb => ?_, h.ways.kept (hk.block _ hl.2.2.1 ?_), h.arms.kept (hk.block _ hl.2.2.2 ?_), (hk.block _ hl.1 ?_).trans h.res, h.below.trans (hk.below h.below.size ?_), h.lo⟩
  · rintro b hb (e | e)
    · exact (h.am b hb).1 e
    · exact (h.fr b (.inl hb)).2.1 e
  · rintro b hb (e | e)
    · exact (h.ml b e) hb
    · exact (h.fr b (.inr (.inr hb))).2.1 e
  · refine ⟨fun e2 => ?_, (h.am b hb).2⟩
    rcases hn b e2 with e | e
    · exact (h.am b hb).1 e
    · have := (ho b (.inl hb)).2; omega
  · rcases hn b hb with e | e
    · exact h.ml b e
    · exact fun e2 => by have := (ho b (.inr (.inr e2))).2; omega
  · rcases hb with hb | hb | hb
    · exact h.fr b (.inl hb)
    · rcases hn b hb with e | e
      · exact h.fr b (.inr (.inl e))
      · exact ⟨by omega, by omega, by omega, by omega⟩
    · exact h.fr b (.inr (.inr hb))
  · rintro (e | e)
    · exact (h.fr _ (.inr (.inl e))).2.2.1 rfl
    · exact h.lo.2.2.2.1 e.symm
  · rintro (e | e)
    · exact (h.fr _ (.inr (.inl e))).2.2.2 rfl
    · exact h.lo.2.2.2.2 e.symm
  · rintro (e | e)
    · exact (h.fr _ (.inr (.inl e))).1 rfl
    · exact h.lo.2.2.1 e
  · rintro k (e | e)
    · exact (ho k (.inr (.inl e))).1
    · rw [e]; exact h.lo.1
theorem Pr.lessed (h : Pr w b2 b4 bw ba R f g L ps ms ls av mv sv W) {x : Int} {sv' : Value} (hk : KeptBut (fun b => sv.ownBlock = some b ∨ b = b4) W W2) (hbox : W2.heap[b4]? = some (.cells #[av, mv, .int .i64 L, sv'] 97))
    (hown : W2.ownsRow w.heap.size 3 1 sv' (ls.length + 1) (ls.map (Value.int .i64) ++ [.int .i64 x])) (hn : ∀ b, sv'.ownBlock = some b → sv.ownBlock = some b ∨ W.heap.size ≤ b) : Pr w b2 b4 bw ba R f g L ps ms (ls ++ [x]) av mv sv' W2 := by
  have hl := h.lts
  have ho := h.own_lt
  refine ⟨hbox, own_keep h.a hk ?_, own_keep h.m hk ?_, by rw [List.map_append, List.length_append]; exact hown, fun b hb => ?_, fun b hb => ?_, fun b hb => ?_, h.ways.kept (hk.block _ hl.2.2.1 ?_), h.arms.kept (hk.block _ hl.2.2.2 ?_), (hk.block _ hl.1 ?_).trans h.res, h.below.trans (hk.below h.below.size ?_), h.lo⟩
  · rintro b hb (e | e)
    · exact (h.am b hb).2 e
    · exact (h.fr b (.inl hb)).2.1 e
  · rintro b hb (e | e)
    · exact (h.ml b hb) e
    · exact (h.fr b (.inr (.inl hb))).2.1 e
  · refine ⟨(h.am b hb).1, fun e2 => ?_⟩
    rcases hn b e2 with e | e
    · exact (h.am b hb).2 e
    · have := (ho b (.inl hb)).2; omega
  · intro e2
    rcases hn b e2 with e | e
    · exact h.ml b hb e
    · have := (ho b (.inr (.inl hb))).2; omega
  · rcases hb with hb | hb | hb
    · exact h.fr b (.inl hb)
    · exact h.fr b (.inr (.inl hb))
    · rcases hn b hb with e | e
      · exact h.fr b (.inr (.inr e))
      · exact ⟨by omega, by omega, by omega, by omega⟩
  · rintro (e | e)
    · exact (h.fr _ (.inr (.inr e))).2.2.1 rfl
    · exact h.lo.2.2.2.1 e.symm
  · rintro (e | e)
    · exact (h.fr _ (.inr (.inr e))).2.2.2 rfl
    · exact h.lo.2.2.2.2 e.symm
  · rintro (e | e)
    · exact (h.fr _ (.inr (.inr e))).1 rfl
    · exact h.lo.2.2.1 e
  · rintro k (e | e)
    · exact (ho k (.inr (.inr e))).1
    · rw [e]; exact h.lo.1
end

/-- What pairs keep: the arms of each product, the sums, and how many are less. -/
def manyI (A B : Int × Int) : List Int := (manyL (wayN A B) (roomN A B)).map (fun k : Nat => (k : Int))
def armsOf (A B : Int × Int) : List (Int × Int) := usedL (wayN A B) (pairAt A B) (roomN A B)
def ArmsAt (B : Nat) (w : World) (v : Value) (ps : List (Int × Int)) : Prop :=
  ∃ a cap b off, v = .slice a ps.length cap ∧ ps.length ≤ cap ∧ cap ≤ maxLen ∧ (0 < ps.length → a = some ⟨b, off, none⟩ ∧ b < B) ∧
    ∀ i, i < ps.length → w.cell? ⟨b, off + i * 2, none⟩ = some (.int .i64 (ps.getD i (0, 0)).1) ∧ w.cell? ⟨b, off + i * 2 + 1, none⟩ = some (.int .i64 (ps.getD i (0, 0)).2)
theorem ArmsAt.below {B : Nat} {w w' : World} {v : Value} {ps : List (Int × Int)} (h : ArmsAt B w v ps) (hb : Below B w w') : ArmsAt B w' v ps := by
  obtain ⟨a, cap, b, off, hv, hl, hm, ha, hc⟩ := h
  exact ⟨a, cap, b, off, hv, hl, hm, ha, fun i hi => ⟨(hb.cell (p := ⟨b, off + i * 2, none⟩) (ha (by omega)).2).trans (hc i hi).1, (hb.cell (p := ⟨b, off + i * 2 + 1, none⟩) (ha (by omega)).2).trans (hc i hi).2⟩⟩
theorem ArmsAt.mono {B B' : Nat} {w : World} {v : Value} {ps : List (Int × Int)} (h : ArmsAt B w v ps) (hb : B ≤ B') : ArmsAt B' w v ps := by
  obtain ⟨a, cap, b, off, hv, hl, hm, ha, hc⟩ := h
  exact ⟨a, cap, b, off, hv, hl, hm, fun h => ⟨(ha h).1, by have := (ha h).2; omega⟩, hc⟩
theorem ints_of_own {w : World} {base : Nat} {v : Value} {xs : List Int} (h : w.ownsRow base 3 1 v xs.length (xs.map (Value.int .i64))) (hw : ∀ x ∈ xs, I64 x) : IntsAt w.heap.size w v xs := by
  obtain ⟨_, ⟨rfl, h0⟩ | ⟨g, cap, cur, rfl, _, hg, hn, hm, hs, ht⟩⟩ := h
  · exact ⟨none, 0, 0, 0, by rw [h0], by omega, by unfold maxLen; omega, fun h => by omega, fun i hi => by omega, hw⟩
  · refine ⟨_, cap, g, 0, rfl, hn, hm, fun _ => ⟨rfl, (Array.getElem?_eq_some_iff.1 hg).1⟩, fun i hi => ?_, hw⟩
    have h1 : cur.toList[i]? = some (.int .i64 (nth xs i)) := by
      have : (cur.toList.take (xs.length * 1))[i]? = some (.int .i64 (nth xs i)) := by rw [ht]; simp [hi, nth_lt hi]
      rwa [List.getElem?_take_of_lt (by omega)] at this
    simp only [Nat.zero_add, World.cell?, hg, Option.isSome_none, Bool.false_eq_true, if_false]
    rwa [Array.getElem?_toList] at h1
theorem arms_of_own {w : World} {base : Nat} {v : Value} {ps : List (Int × Int)} (h : w.ownsRow base 94 2 v ps.length (qCells ps)) : ArmsAt w.heap.size w v ps := by
  obtain ⟨_, ⟨rfl, h0⟩ | ⟨g, cap, cur, rfl, _, hg, hn, hm, hs, ht⟩⟩ := h
  · exact ⟨none, 0, 0, 0, by rw [h0], by omega, by unfold maxLen; omega, fun h => by omega, fun i hi => by omega⟩
  · refine ⟨_, cap, g, 0, rfl, hn, hm, fun _ => ⟨rfl, (Array.getElem?_eq_some_iff.1 hg).1⟩, fun i hi => ?_⟩
    have hat := qCells_at ps hi
    rw [← ht] at hat
    rw [List.getElem?_take_of_lt (by omega), List.getElem?_take_of_lt (by omega)] at hat
    simp only [Nat.zero_add, World.cell?, hg, Option.isSome_none, Bool.false_eq_true, if_false]
    rw [Array.getElem?_toList, Array.getElem?_toList] at hat
    exact hat
def PairsAt (B : Nat) (w : World) (v : Value) (A D : Int × Int) : Prop :=
  ∃ av mv sv, v = .agg #[av, mv, .int .i64 (A.1 * D.1), sv] ∧ ArmsAt B w av (armsOf A D) ∧ IntsAt B w mv (manyI A D) ∧ IntsAt B w sv (lessI A D)
theorem PairsAt.below {B : Nat} {w w' : World} {v : Value} {A D : Int × Int} (h : PairsAt B w v A D) (hb : Below B w w') : PairsAt B w' v A D := by
  obtain ⟨av, mv, sv, hv, h1, h2, h3⟩ := h
  exact ⟨av, mv, sv, hv, h1.below hb, h2.below hb, h3.below hb⟩
theorem PairsAt.mono {B B' : Nat} {w : World} {v : Value} {A D : Int × Int} (h : PairsAt B w v A D) (hb : B ≤ B') : PairsAt B' w v A D := by
  obtain ⟨av, mv, sv, hv, h1, h2, h3⟩ := h
  exact ⟨av, mv, sv, hv, h1.mono hb, h2.mono hb, h3.mono hb⟩
/-- .. in blocks beyond the first N. -/
def PairsNew (N : Nat) (v : Value) (A D : Int × Int) (W : World) : Prop := ∀ W', KeptBut (fun k => k < N) W W' → PairsAt W'.heap.size W' v A D
theorem PairsNew.less {N N' : Nat} {v : Value} {A D : Int × Int} {W : World} (h : PairsNew N v A D W) (hN : N' ≤ N) : PairsNew N' v A D W := fun W' hk => h W' (hk.mono (fun k _ h => by omega))
theorem PairsNew.below {N : Nat} {v : Value} {A D : Int × Int} {W W2 : World} (h : PairsNew N v A D W) (hb : Below W.heap.size W W2) : PairsNew N v A D W2 := fun W' hk => h W' ((KeptBut.of_below hb).trans hk)
theorem many_bound (F : Nat → Nat) {N : Nat} (h : ∀ k, sumTo F k ≤ N) : ∀ n, ∀ x ∈ manyL F n, x ≤ N
  | 0, x, hx => by simp only [manyL, List.mem_singleton] at hx; omega
  | n + 1, x, hx => by
    simp only [manyL] at hx
    split at hx
    · rcases List.mem_append.1 hx with hx | hx
      · exact many_bound F h n x hx
      · simp only [List.mem_singleton] at hx; subst hx; exact h _
    · exact many_bound F h n x hx
end Go.Proofs.Ytomcjopcfdllgaa

namespace Go.Proofs.Ytomcjopcfdllgaa
open Go.RowKit

/-- The cells of a machine at work. -/
abbrev wArr (lv : Value) (M : Mach) (bv : Value) (s0 s1 s2 : Int × Int) (long lev o0 o1 : Int) (av mv : Value) (least : Int) (sv : Value) : Array Value :=
  #[lv, .int .i64 M.water, .int .i64 M.lkLo, .int .i64 M.lkHi, bv, .int .i64 M.wrong, .int .i64 s0.1, .int .i64 s0.2, .int .i64 s1.1, .int .i64 s1.2, .int .i64 s2.1, .int .i64 s2.2, .int .i64 long, .int .i64 lev, .int .i64 o0, .int .i64 o1, av, mv, .int .i64 least, sv]
theorem cells20 {W : World} {b : Nat} {v0 v1 v2 v3 v4 v5 v6 v7 v8 v9 v10 v11 v12 v13 v14 v15 v16 v17 v18 v19 : Value} {t : TypeId} (e : W.heap[b]? = some (.cells #[v0, v1, v2, v3, v4, v5, v6, v7, v8, v9, v10, v11, v12, v13, v14, v15, v16, v17, v18, v19] t)) :
    (W.cell? ⟨b, 0, none⟩ = some v0 ∧ W.cell? ⟨b, 1, none⟩ = some v1 ∧ W.cell? ⟨b, 2, none⟩ = some v2 ∧ W.cell? ⟨b, 3, none⟩ = some v3 ∧ W.cell? ⟨b, 4, none⟩ = some v4 ∧ W.cell? ⟨b, 5, none⟩ = some v5) ∧
    (W.cell? ⟨b, 6, none⟩ = some v6 ∧ W.cell? ⟨b, 7, none⟩ = some v7 ∧ W.cell? ⟨b, 8, none⟩ = some v8 ∧ W.cell? ⟨b, 9, none⟩ = some v9 ∧ W.cell? ⟨b, 10, none⟩ = some v10 ∧ W.cell? ⟨b, 11, none⟩ = some v11) ∧
    (W.cell? ⟨b, 12, none⟩ = some v12 ∧ W.cell? ⟨b, 13, none⟩ = some v13 ∧ W.cell? ⟨b, 14, none⟩ = some v14 ∧ W.cell? ⟨b, 15, none⟩ = some v15) ∧
    (W.cell? ⟨b, 16, none⟩ = some v16 ∧ W.cell? ⟨b, 17, none⟩ = some v17 ∧ W.cell? ⟨b, 18, none⟩ = some v18 ∧ W.cell? ⟨b, 19, none⟩ = some v19) := by
  refine ⟨⟨?_, ?_, ?_, ?_, ?_, ?_⟩, ⟨?_, ?_, ?_, ?_, ?_, ?_⟩, ⟨?_, ?_, ?_, ?_⟩, ?_, ?_, ?_, ?_⟩ <;> (rw [cell_of e]; rfl)
/-- A machine at work in block pb; lev is the lever of which each group has one arm. -/
def WorkAt (B : Nat) (w : World) (pb : Nat) (M : Mach) (lev : Nat) : Prop :=
  pb < B ∧ ∃ lv bv av mv sv, w.heap[pb]? = some (.cells (wArr lv M bv (shortOf M.levers 0) (shortOf M.levers 1) (shortOf M.levers 2) (longP M.levers) (lev : Nat) ((lev + 1) % 3 : Nat) ((lev + 2) % 3 : Nat) av mv ((shortOf M.levers ((lev + 1) % 3)).1 * (shortOf M.levers ((lev + 2) % 3)).1) sv) 99) ∧
    BalsAt B w bv M.bals ∧ ArmsAt B w av (armsOf (shortOf M.levers ((lev + 1) % 3)) (shortOf M.levers ((lev + 2) % 3))) ∧ IntsAt B w mv (manyI (shortOf M.levers ((lev + 1) % 3)) (shortOf M.levers ((lev + 2) % 3))) ∧ IntsAt B w sv (lessI (shortOf M.levers ((lev + 1) % 3)) (shortOf M.levers ((lev + 2) % 3)))
theorem WorkAt.below {B : Nat} {w w' : World} {pb : Nat} {M : Mach} {lev : Nat} (h : WorkAt B w pb M lev) (hb : Below B w w') : WorkAt B w' pb M lev := by
  obtain ⟨h0, lv, bv, av, mv, sv, h1, h2, h3, h4, h5⟩ := h
  exact ⟨h0, lv, bv, av, mv, sv, (hb.block pb h0).trans h1, h2.below hb, h3.below hb, h4.below hb, h5.below hb⟩
theorem WorkAt.mono {B B' : Nat} {w : World} {pb : Nat} {M : Mach} {lev : Nat} (h : WorkAt B w pb M lev) (hb : B ≤ B') : WorkAt B' w pb M lev := by
  obtain ⟨h0, lv, bv, av, mv, sv, h1, h2, h3, h4, h5⟩ := h
  exact ⟨by omega, lv, bv, av, mv, sv, h1, h2.mono hb, h3.mono hb, h4.mono hb, h5.mono hb⟩
/-- In later worlds, below their own heaps' ends. -/
theorem WorkAt.next {w w' : World} {pb : Nat} {M : Mach} {lev : Nat} {B : Nat} (h : WorkAt B w pb M lev) (hb : Below B w w') (hB : B ≤ w'.heap.size) : WorkAt w'.heap.size w' pb M lev := (h.below hb).mono hB
/-- What the small functions read. -/
theorem WorkAt.three {B : Nat} {w : World} {pb : Nat} {M : Mach} {lev : Nat} (h : WorkAt B w pb M lev) : w.cell? ⟨pb, 1, none⟩ = some (.int .i64 M.water) ∧ w.cell? ⟨pb, 12, none⟩ = some (.int .i64 (longP M.levers)) ∧ ∃ bv, w.cell? ⟨pb, 4, none⟩ = some bv ∧ BalsAt B w bv M.bals := by
  obtain ⟨h0, lv, bv, av, mv, sv, h1, h2, _⟩ := h
  obtain ⟨c1, c2, c3, c4⟩ := cells20 h1
  exact ⟨c1.2.1, c3.1, bv, c1.2.2.2.2.1, h2⟩

/-- What is needed of a group's setting. -/
theorem armOf_in {M : Mach} (hV : ValidM M) {lev : Nat} (_hl : lev < 3) {a : Int} {q : Int × Int} (ha : (shortOf M.levers lev).1 ≤ a ∧ a ≤ (shortOf M.levers lev).2) (hq : q ∈ pairsL (shortOf M.levers ((lev + 1) % 3)) (shortOf M.levers ((lev + 2) % 3))) (i : Nat) : 1 ≤ armOf lev a q i ∧ armOf lev a q i ≤ 1000 := by
  obtain ⟨⟨x1, x2⟩, y1, y2⟩ := mem_pairs.1 hq
  have h0 := short_ok hV lev
  have h1 := short_ok hV ((lev + 1) % 3)
  have h2 := short_ok hV ((lev + 2) % 3)
  unfold armOf
  split
  · omega
  · split <;> omega
end Go.Proofs.Ytomcjopcfdllgaa
