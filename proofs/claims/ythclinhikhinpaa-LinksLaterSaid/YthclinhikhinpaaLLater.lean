/-
  A law's body: the last deed (P2.16).
-/
import Derived.Test.YthclinhikhinpaaLRow4
import Derived.Test.YthclinhikhinpaaLFactsK
import Derived.Test.YthclinhikhinpaaLLater3
import Derived.Test.YthclinhikhinpaaLErr
import Derived.Test.YthclinhikhinpaaLProof
import Derived.Test.YthclinhikhinpaaLLater2
import Derived.Test.YthclinhikhinpaaLCalls
import Derived.Test.YthclinhikhinpaaLIn
import Derived.Test.YthclinhikhinpaaLWorks
import Derived.Deep.DeepCutAuto
import Derived.Deep.RegionHeld3
namespace Go.Proofs.Ythclinhikhinpaa
open Go.RowKit

/-- The block of what is new: a copy's deeds, a variable. -/
def keyL : Nat → Value → Option Nat
  | 1, v => headB v
  | 3, v => headB v
  | 5, v => headB v
  | 6, v => ptrB v
  | 7, v => ptrB v
  | 8, v => ptrB v
  | _, _ => none
theorem head_key {lo : Nat} {W : World} {v : Value} {C : Chain} (h : CopyAt lo W v C) {b : Nat} (hb : headB v = some b) : lo ≤ b ∧ b < W.heap.size := by
  obtain ⟨dv, sv, rfl, h1, _⟩ := h
  exact h1.lt b hb
theorem Row3.stat {lo : Nat} {w W : World} {b : Nat} {dv sv : Value} {C : Chain} (h : Row3 lo W b dv sv C) (hb : Below w.heap.size w W) : LStat w W b dv sv (.int .i64 C.wrong) C := ⟨h.blk, h.chain, hb⟩
theorem box2l {w : World} {b : Nat} {v0 v1 : Value} {t : TypeId} (e : w.heap[b]? = some (.cells #[v0, v1] t)) : w.cell? ⟨b, 0, none⟩ = some v0 ∧ w.cell? ⟨b, 1, none⟩ = some v1 := by
  refine ⟨?_, ?_⟩ <;> simp [World.cell?, e]

set_option maxRecDepth 100000 in
set_option maxHeartbeats 16000000 in
theorem LinksLater_any (v : Value) (C : Chain) (Y0 Y1 X0 X1 X2 : Int) (w : World) (hx : ChainAt w.heap.size w v C) (hY0 : I64 Y0) (hY1 : I64 Y1) :
    Calls Try.prog 10 #[v, .agg #[.int .i64 Y0, .int .i64 Y1], .agg #[.int .i64 X0, .int .i64 X1, .int .i64 X2]] w fun e w' => e = .returned (.bool true) ∧ Below w.heap.size w w' := by
  have hx' := hx
  obtain ⟨iB, hiB, hzB0, hzB1, hzB2⟩ := info_parts Try_infoDeed
  obtain ⟨a, cap, b, off, a2, cap2, b2, off2, rfl, hm, hm2, hcap, hcapm, HA, HC, HA2, HC2, HI, HI2⟩ := hx.opened
  have HS0 := Lib.hid (((LStat.first hx').next ((Below.refl _ _).alloc (Nat.le_refl _) (.cells #[.int .i64 Y0, .int .i64 Y1] 64))).next ((Below.refl _ _).alloc (Nat.le_refl _) (.cells #[.int .i64 X0, .int .i64 X1, .int .i64 X2] 40)))
  obtain ⟨e0, e1, e2, hb0, hsz0⟩ := heap3 w (.cells #[.slice a C.deeds.length cap, .slice a2 C.sights.length cap2, .int .i64 C.wrong] 25) (.cells #[.int .i64 Y0, .int .i64 Y1] 64) (.cells #[.int .i64 X0, .int .i64 X1, .int .i64 X2] 40)
  clear hx hx' HA2 HC2 HI2 HI HA HC
  go_enter Try.func10, Try.ntmps10
  go_wp2_with fail
  obtain ⟨W, hW⟩ : ∃ W, W = ((w.alloc (.cells #[.slice a C.deeds.length cap, .slice a2 C.sights.length cap2, .int .i64 C.wrong] 25)).alloc (.cells #[.int .i64 Y0, .int .i64 Y1] 64)).alloc (.cells #[.int .i64 X0, .int .i64 X1, .int .i64 X2] 40) := ⟨_, rfl⟩
  rw [← hW] at e0 e1 e2 hb0 hsz0 HS0 ⊢
  clear hW
  have HY0 := Lib.hid e1
  have HX0 := Lib.hid e2
  have hlW : w.heap.size + 2 < W.heap.size := by omega
  clear e0 e1 e2 hsz0
  cases hr : readyB C
  case false =>
    have HR := Lib.hid hr
    clear hr
    refine (ready_to HR.out HS0.out.st).mono ?_
    rintro e z1 ⟨rfl, hb⟩
    have HS1 := Lib.hid (HS0.out.next hb)
    clear hb
    go_wp2_with (go_at_call 14; refine (works_any _).mono ?_; rintro e wz ⟨rfl, hb⟩; have HBZ := Lib.hid (HS1.out.next hb).b; clear hb)
    go_ret
    exact ⟨rfl, HBZ.out⟩
  obtain ⟨hV, hnd, hns⟩ := ready_is hr
  have HR := Lib.hid hr
  have HV := Lib.hid hV
  clear hr hV
  refine (ready_to HR.out HS0.out.st).mono ?_
  rintro e z1 ⟨rfl, hb⟩
  have HS1 := Lib.hid (HS0.out.next hb)
  have HY1 := Lib.hid ((hb.block _ (heap_lt HY0.out)).trans HY0.out)
  have HX1 := Lib.hid ((hb.block _ (heap_lt HX0.out)).trans HX0.out)
  clear hb
  obtain ⟨c0, c1, c2⟩ := HS1.out.cells
  obtain ⟨y0, y1⟩ := box2l HY1.out
  obtain ⟨x0, x1, x2⟩ := box3c HX1.out
  by_cases h10 : C.deeds.length ≤ 10
  case neg =>
    have hd : decide ((10 : Int) < (C.deeds.length : Int)) = true := decide_eq_true (by omega)
    have hd' : 10 < C.deeds.length := by omega
    go_wp2_with (go_at_call 14; refine (works_any _).mono ?_; rintro e wz ⟨rfl, hb⟩; have HBZ := Lib.hid (HS1.out.next hb).b; clear hb)
    go_ret
    exact ⟨rfl, HBZ.out⟩
  have hq0 : ¬ 10 < C.deeds.length := by omega
  by_cases hy0 : 0 ≤ Y0
  case neg =>
    have hd : Y0 < 0 := by omega
    go_wp2_with (go_at_call 14; refine (works_any _).mono ?_; rintro e wz ⟨rfl, hb⟩; have HBZ := Lib.hid (HS1.out.next hb).b; clear hb)
    go_ret
    exact ⟨rfl, HBZ.out⟩
  by_cases hy1 : Y0 ≤ 99
  case neg =>
    have hd : 99 < Y0 := by omega
    go_wp2_with (go_at_call 14; refine (works_any _).mono ?_; rintro e wz ⟨rfl, hb⟩; have HBZ := Lib.hid (HS1.out.next hb).b; clear hb)
    go_ret
    exact ⟨rfl, HBZ.out⟩
  by_cases hy2 : 0 ≤ Y1
  case neg =>
    have hd : Y1 < 0 := by omega
    go_wp2_with (go_at_call 14; refine (works_any _).mono ?_; rintro e wz ⟨rfl, hb⟩; have HBZ := Lib.hid (HS1.out.next hb).b; clear hb)
    go_ret
    exact ⟨rfl, HBZ.out⟩
  by_cases hy3 : Y1 ≤ 99
  case neg =>
    have hd : 99 < Y1 := by omega
    go_wp2_with (go_at_call 14; refine (works_any _).mono ?_; rintro e wz ⟨rfl, hb⟩; have HBZ := Lib.hid (HS1.out.next hb).b; clear hb)
    go_ret
    exact ⟨rfl, HBZ.out⟩
  have hq1 : ¬ Y0 < 0 := by omega
  have hq2 : ¬ 99 < Y0 := by omega
  have hq3 : ¬ Y1 < 0 := by omega
  have hq4 : ¬ 99 < Y1 := by omega
  have hz0 : decide ((10 : Int) < (C.deeds.length : Int)) = false := decide_eq_false (by omega)
  have hz1 : decide (Y0 < 0) = false := decide_eq_false hq1
  have hz2 : decide (99 < Y0) = false := decide_eq_false hq2
  have hz3 : decide (Y1 < 0) = false := decide_eq_false hq3
  have hz4 : decide (99 < Y1) = false := decide_eq_false hq4
  cases hl : linkB C X2
  case false =>
    have HL := Lib.hid hl
    clear hl
    go_wp2_with (first | (go_at_call 46; refine (IsLink_to HL.out (by omega) HS1.out.st).mono ?_; rintro e z2 ⟨rfl, hb⟩; have HS2 := Lib.hid (HS1.out.next hb); clear hb) | (go_at_call 14; refine (works_any _).mono ?_; rintro e wz ⟨rfl, hb⟩; have HBZ := Lib.hid (HS2.out.next hb).b; clear hb))
    go_ret
    exact ⟨rfl, HBZ.out⟩
  have HL := Lib.hid hl
  clear hl
  go_upto_region 3 with (go_at_call 46; refine (IsLink_to HL.out (by omega) HS1.out.st).mono ?_; rintro e z2 ⟨rfl, hb⟩; have HS2 := Lib.hid (HS1.out.next hb); have HY2 := Lib.hid ((hb.block _ (heap_lt HY1.out)).trans HY1.out); have HX2 := Lib.hid ((hb.block _ (heap_lt HX1.out)).trans HX1.out); clear hb)
  clear c0 c1 c2 y0 y1 x0 x1 x2
  refine wp_region_factsK _ 9 [60, 61, 62, 63, 64, 65, 7, 8, 9] [isV (.agg #[.slice a C.deeds.length cap, .slice a2 C.sights.length cap2, .int .i64 C.wrong]), ⟨fun v W => CopyAt z2.heap.size W v C, fun _ _ _ h hb => h.below hb⟩, isV (.agg #[.slice a C.deeds.length cap, .slice a2 C.sights.length cap2, .int .i64 C.wrong]), ⟨fun v W => CopyAt z2.heap.size W v C, fun _ _ _ h hb => h.below hb⟩, isV (.agg #[.slice a C.deeds.length cap, .slice a2 C.sights.length cap2, .int .i64 C.wrong]), ⟨fun v W => CopyAt z2.heap.size W v C, fun _ _ _ h hb => h.below hb⟩, ⟨fun v W => ∃ m, v = .pointer (some ⟨m, 0, none⟩) ∧ z2.heap.size ≤ m ∧ W.heap[m]? = some (.cells #[.slice none 0 0, .slice none 0 0, .int .i64 0] 25), fun _ _ _ ⟨m, h1, h2, h3⟩ hb => ⟨m, h1, h2, (hb.block m (heap_lt h3)).trans h3⟩⟩, ⟨fun v W => ∃ m, v = .pointer (some ⟨m, 0, none⟩) ∧ z2.heap.size ≤ m ∧ W.heap[m]? = some (.cells #[.slice none 0 0, .slice none 0 0, .int .i64 0] 25), fun _ _ _ ⟨m, h1, h2, h3⟩ hb => ⟨m, h1, h2, (hb.block m (heap_lt h3)).trans h3⟩⟩, ⟨fun v W => ∃ m, v = .pointer (some ⟨m, 0, none⟩) ∧ z2.heap.size ≤ m ∧ W.heap[m]? = some (.cells #[.slice none 0 0, .slice none 0 0, .int .i64 0] 25), fun _ _ _ ⟨m, h1, h2, h3⟩ hb => ⟨m, h1, h2, (hb.block m (heap_lt h3)).trans h3⟩⟩] keyL (by kernel_rfl) (by kernel_rfl) (by kernel_rfl) rfl (by decide) (by decide) (by simp) (by
    intro i v W h b hb
    match i, h, hb with
    | 0, _, hb => cases hb
    | 1, h, hb => exact (head_key (show CopyAt z2.heap.size W v C from h) hb).2
    | 2, _, hb => cases hb
    | 3, h, hb => exact (head_key (show CopyAt z2.heap.size W v C from h) hb).2
    | 4, _, hb => cases hb
    | 5, h, hb => exact (head_key (show CopyAt z2.heap.size W v C from h) hb).2
    | 6, h, hb => obtain ⟨m, rfl, _, h3⟩ := (show ∃ m, v = .pointer (some ⟨m, 0, none⟩) ∧ z2.heap.size ≤ m ∧ W.heap[m]? = some (.cells #[.slice none 0 0, .slice none 0 0, .int .i64 0] 25) from h); injection hb with hb; subst hb; exact heap_lt h3
    | 7, h, hb => obtain ⟨m, rfl, _, h3⟩ := (show ∃ m, v = .pointer (some ⟨m, 0, none⟩) ∧ z2.heap.size ≤ m ∧ W.heap[m]? = some (.cells #[.slice none 0 0, .slice none 0 0, .int .i64 0] 25) from h); injection hb with hb; subst hb; exact heap_lt h3
    | 8, h, hb => obtain ⟨m, rfl, _, h3⟩ := (show ∃ m, v = .pointer (some ⟨m, 0, none⟩) ∧ z2.heap.size ≤ m ∧ W.heap[m]? = some (.cells #[.slice none 0 0, .slice none 0 0, .int .i64 0] 25) from h); injection hb with hb; subst hb; exact heap_lt h3
    | n + 9, _, hb => cases hb) ?step ?rest
  case step =>
    intro i ac W d hi hd hb hoff hdep
    have hs := HS2.out.next hb
    obtain ⟨c0, c1, c2⟩ := hs.cells
    have hlo := hb.size
    have hi2 : i = 0 ∨ i = 1 ∨ i = 2 ∨ i = 3 ∨ i = 4 ∨ i = 5 ∨ i = 6 ∨ i = 7 ∨ i = 8 := by omega
    rcases hi2 with rfl | rfl | rfl | rfl | rfl | rfl | rfl | rfl | rfl
    · obtain rfl : 60 = d := by simpa using hd
      have q3 : ac.tmps[3]?.getD undef = .pointer (some ⟨w.heap.size, 0, none⟩) := (eval_tmp _ _).symm.trans <| (hoff 3 (by decide)).trans rfl
      refine factK (fun _ => rfl) ?_
      refine fact_value rfl rfl rfl (v := .agg #[.slice a C.deeds.length cap, .slice a2 C.sights.length cap2, .int .i64 C.wrong]) (W' := W) ?_ (Below.refl _ _) rfl
      simp only [execOp]
      go_simp
    · obtain rfl : 61 = d := by simpa using hd
      have q60 : ac.tmps[60]?.getD undef = .agg #[.slice a C.deeds.length cap, .slice a2 C.sights.length cap2, .int .i64 C.wrong] := (eval_tmp _ _).symm.trans (hdep 0 60 rfl rfl)
      refine fact_callK rfl rfl rfl (f := 15) (args := #[.agg #[.slice a C.deeds.length cap, .slice a2 C.sights.length cap2, .int .i64 C.wrong]]) ?_ ?_
      · simp only [execOp]
        go_simp
      · refine (Copy_any _ C W hs.st (by omega) (by omega)).mono ?_
        rintro e W' ⟨u, rfl, hc, hbk⟩
        exact ⟨u, rfl, hbk, hc.low hlo, fun b' hb' => (head_key hc hb').1⟩
    · obtain rfl : 62 = d := by simpa using hd
      have q3 : ac.tmps[3]?.getD undef = .pointer (some ⟨w.heap.size, 0, none⟩) := (eval_tmp _ _).symm.trans <| (hoff 3 (by decide)).trans rfl
      refine factK (fun _ => rfl) ?_
      refine fact_value rfl rfl rfl (v := .agg #[.slice a C.deeds.length cap, .slice a2 C.sights.length cap2, .int .i64 C.wrong]) (W' := W) ?_ (Below.refl _ _) rfl
      simp only [execOp]
      go_simp
    · obtain rfl : 63 = d := by simpa using hd
      have q62 : ac.tmps[62]?.getD undef = .agg #[.slice a C.deeds.length cap, .slice a2 C.sights.length cap2, .int .i64 C.wrong] := (eval_tmp _ _).symm.trans (hdep 2 62 rfl rfl)
      refine fact_callK rfl rfl rfl (f := 15) (args := #[.agg #[.slice a C.deeds.length cap, .slice a2 C.sights.length cap2, .int .i64 C.wrong]]) ?_ ?_
      · simp only [execOp]
        go_simp
      · refine (Copy_any _ C W hs.st (by omega) (by omega)).mono ?_
        rintro e W' ⟨u, rfl, hc, hbk⟩
        exact ⟨u, rfl, hbk, hc.low hlo, fun b' hb' => (head_key hc hb').1⟩
    · obtain rfl : 64 = d := by simpa using hd
      have q3 : ac.tmps[3]?.getD undef = .pointer (some ⟨w.heap.size, 0, none⟩) := (eval_tmp _ _).symm.trans <| (hoff 3 (by decide)).trans rfl
      refine factK (fun _ => rfl) ?_
      refine fact_value rfl rfl rfl (v := .agg #[.slice a C.deeds.length cap, .slice a2 C.sights.length cap2, .int .i64 C.wrong]) (W' := W) ?_ (Below.refl _ _) rfl
      simp only [execOp]
      go_simp
    · obtain rfl : 65 = d := by simpa using hd
      have q64 : ac.tmps[64]?.getD undef = .agg #[.slice a C.deeds.length cap, .slice a2 C.sights.length cap2, .int .i64 C.wrong] := (eval_tmp _ _).symm.trans (hdep 4 64 rfl rfl)
      refine fact_callK rfl rfl rfl (f := 15) (args := #[.agg #[.slice a C.deeds.length cap, .slice a2 C.sights.length cap2, .int .i64 C.wrong]]) ?_ ?_
      · simp only [execOp]
        go_simp
      · refine (Copy_any _ C W hs.st (by omega) (by omega)).mono ?_
        rintro e W' ⟨u, rfl, hc, hbk⟩
        exact ⟨u, rfl, hbk, hc.low hlo, fun b' hb' => (head_key hc hb').1⟩
    · obtain rfl : 7 = d := by simpa using hd
      refine fact_valueK rfl rfl rfl (v := .pointer (some ⟨W.heap.size, 0, none⟩)) (W' := W.alloc (.cells #[.slice none 0 0, .slice none 0 0, .int .i64 0] 25)) ?_ ((Below.refl _ _).alloc (Nat.le_refl _) _) ⟨_, rfl, hlo, heap_new _ _⟩ (fun b' hb' => by injection hb' with hb'; subst hb'; exact Nat.le_refl _)
      simp only [execOp]
      go_simp
    · obtain rfl : 8 = d := by simpa using hd
      refine fact_valueK rfl rfl rfl (v := .pointer (some ⟨W.heap.size, 0, none⟩)) (W' := W.alloc (.cells #[.slice none 0 0, .slice none 0 0, .int .i64 0] 25)) ?_ ((Below.refl _ _).alloc (Nat.le_refl _) _) ⟨_, rfl, hlo, heap_new _ _⟩ (fun b' hb' => by injection hb' with hb'; subst hb'; exact Nat.le_refl _)
      simp only [execOp]
      go_simp
    · obtain rfl : 9 = d := by simpa using hd
      refine fact_valueK rfl rfl rfl (v := .pointer (some ⟨W.heap.size, 0, none⟩)) (W' := W.alloc (.cells #[.slice none 0 0, .slice none 0 0, .int .i64 0] 25)) ?_ ((Below.refl _ _).alloc (Nat.le_refl _) _) ⟨_, rfl, hlo, heap_new _ _⟩ (fun b' hb' => by injection hb' with hb'; subst hb'; exact Nat.le_refl _)
      simp only [execOp]
      go_simp
  case rest =>
    intro vs W3 hvl hb hval hfar
    obtain ⟨v0, v1, v2, v3, v4, v5, v6, v7, v8, rfl⟩ : ∃ v0 v1 v2 v3 v4 v5 v6 v7 v8, vs = [v0, v1, v2, v3, v4, v5, v6, v7, v8] := by
      match vs, hvl with
      | [v0, v1, v2, v3, v4, v5, v6, v7, v8], _ => exact ⟨v0, v1, v2, v3, v4, v5, v6, v7, v8, rfl⟩
    obtain rfl : v0 = .agg #[.slice a C.deeds.length cap, .slice a2 C.sights.length cap2, .int .i64 C.wrong] := by obtain ⟨u, e, h⟩ := hval 0 (by omega); have e2 : some v0 = some u := e; injection e2 with e2; subst e2; exact h
    have k1 : CopyAt z2.heap.size W3 v1 C := by obtain ⟨u, e, h⟩ := hval 1 (by omega); have e2 : some v1 = some u := e; injection e2 with e2; subst e2; exact h
    obtain rfl : v2 = .agg #[.slice a C.deeds.length cap, .slice a2 C.sights.length cap2, .int .i64 C.wrong] := by obtain ⟨u, e, h⟩ := hval 2 (by omega); have e2 : some v2 = some u := e; injection e2 with e2; subst e2; exact h
    have k3 : CopyAt z2.heap.size W3 v3 C := by obtain ⟨u, e, h⟩ := hval 3 (by omega); have e2 : some v3 = some u := e; injection e2 with e2; subst e2; exact h
    obtain rfl : v4 = .agg #[.slice a C.deeds.length cap, .slice a2 C.sights.length cap2, .int .i64 C.wrong] := by obtain ⟨u, e, h⟩ := hval 4 (by omega); have e2 : some v4 = some u := e; injection e2 with e2; subst e2; exact h
    have k5 : CopyAt z2.heap.size W3 v5 C := by obtain ⟨u, e, h⟩ := hval 5 (by omega); have e2 : some v5 = some u := e; injection e2 with e2; subst e2; exact h
    have k6 : ∃ m, v6 = .pointer (some ⟨m, 0, none⟩) ∧ z2.heap.size ≤ m ∧ W3.heap[m]? = some (.cells #[.slice none 0 0, .slice none 0 0, .int .i64 0] 25) := by obtain ⟨u, e, h⟩ := hval 6 (by omega); have e2 : some v6 = some u := e; injection e2 with e2; subst e2; exact h
    have k7 : ∃ m, v7 = .pointer (some ⟨m, 0, none⟩) ∧ z2.heap.size ≤ m ∧ W3.heap[m]? = some (.cells #[.slice none 0 0, .slice none 0 0, .int .i64 0] 25) := by obtain ⟨u, e, h⟩ := hval 7 (by omega); have e2 : some v7 = some u := e; injection e2 with e2; subst e2; exact h
    have k8 : ∃ m, v8 = .pointer (some ⟨m, 0, none⟩) ∧ z2.heap.size ≤ m ∧ W3.heap[m]? = some (.cells #[.slice none 0 0, .slice none 0 0, .int .i64 0] 25) := by obtain ⟨u, e, h⟩ := hval 8 (by omega); have e2 : some v8 = some u := e; injection e2 with e2; subst e2; exact h
    clear hval hvl
    obtain ⟨B, rfl, hB, hBb⟩ := k6
    obtain ⟨U, rfl, hU, hUb⟩ := k7
    obtain ⟨D, rfl, hD, hDb⟩ := k8
    have d13 := hfar 1 3 _ _ (by omega) (by omega) (by omega) rfl rfl
    have d15 := hfar 1 5 _ _ (by omega) (by omega) (by omega) rfl rfl
    have d35 := hfar 3 5 _ _ (by omega) (by omega) (by omega) rfl rfl
    have d67 := hfar 6 7 _ _ (by omega) (by omega) (by omega) rfl rfl
    have d68 := hfar 6 8 _ _ (by omega) (by omega) (by omega) rfl rfl
    have d78 := hfar 7 8 _ _ (by omega) (by omega) (by omega) rfl rfl
    have nBU : U ≠ B := fun e => d67 B rfl (by rw [e]; rfl)
    have nBD : D ≠ B := fun e => d68 B rfl (by rw [e]; rfl)
    have nUD : D ≠ U := fun e => d78 U rfl (by rw [e]; rfl)
    have nBU' : B ≠ U := Ne.symm nBU
    have nBD' : B ≠ D := Ne.symm nBD
    have nUD' : U ≠ D := Ne.symm nUD
    obtain ⟨f1, p1, f2, p2, rfl, hp1, _⟩ := k1.shape
    obtain ⟨g1, m1, g2, m2, rfl, hm1, _⟩ := k3.shape
    obtain ⟨h1, r1, h2, r2, rfl, hr1, _⟩ := k5.shape
    have A13 := Lib.hid (show ∀ g, (Value.slice f1 C.deeds.length p1).ownBlock = some g → (Value.slice g1 C.deeds.length m1).ownBlock ≠ some g from fun g hg => d13 g hg)
    have A15 := Lib.hid (show ∀ g, (Value.slice f1 C.deeds.length p1).ownBlock = some g → (Value.slice h1 C.deeds.length r1).ownBlock ≠ some g from fun g hg => d15 g hg)
    have A35 := Lib.hid (show ∀ g, (Value.slice g1 C.deeds.length m1).ownBlock = some g → (Value.slice h1 C.deeds.length r1).ownBlock ≠ some g from fun g hg => d35 g hg)
    clear hfar d13 d15 d35 d67 d68 d78
    have K1 := Lib.hid k1
    have K3 := Lib.hid k3
    have K5 := Lib.hid k5
    have HB := Lib.hid hb
    have HBb := Lib.hid hBb
    have HUb := Lib.hid hUb
    have HDb := Lib.hid hDb
    have hW2 : z2.heap.size ≤ W3.heap.size := hb.size
    clear k1 k3 k5 hb
    have hBW := heap_lt hBb
    have hUW := heap_lt hUb
    have hDW := heap_lt hDb
    obtain ⟨⟨t0, t1, t2⟩, tf⟩ := box3f_of hBb
    obtain ⟨⟨s0, s1, s2⟩, sf⟩ := box3f_of hUb
    obtain ⟨⟨u0, u1, u2⟩, uf⟩ := box3f_of hDb
    have tf0 := tf 0
    have tf1 := tf 1
    have tf2 := tf 2
    have sf0 := sf 0
    have sf1 := sf 1
    have sf2 := sf 2
    have uf0 := uf 0
    have uf1 := uf 1
    have uf2 := uf 2
    clear tf sf uf hBb hUb hDb
    simp only [putL, Act.put, List.drop, List.setIfInBounds_toArray, List.set_cons_zero, List.set_cons_succ]
    go_upto_region 4 with fail
    obtain ⟨Y, hY⟩ : ∃ Y, Y = put3 (put3 (put3 W3 B (.slice f1 C.deeds.length p1) (.slice f2 C.sights.length p2) (.int .i64 C.wrong)) U (.slice g1 C.deeds.length m1) (.slice g2 C.sights.length m2) (.int .i64 C.wrong)) D (.slice h1 C.deeds.length r1) (.slice h2 C.sights.length r2) (.int .i64 C.wrong) := ⟨_, rfl⟩
    have hYB : Y.heap[B]? = some (.cells #[.slice f1 C.deeds.length p1, .slice f2 C.sights.length p2, .int .i64 C.wrong] 25) := by rw [hY, put3_other nBD', put3_other nBU']; exact put3_heap HBb.out
    have hU1 : (put3 W3 B (.slice f1 C.deeds.length p1) (.slice f2 C.sights.length p2) (.int .i64 C.wrong)).heap[U]? = some (.cells #[.slice none 0 0, .slice none 0 0, .int .i64 0] 25) := (put3_other nBU).trans HUb.out
    have hYU : Y.heap[U]? = some (.cells #[.slice g1 C.deeds.length m1, .slice g2 C.sights.length m2, .int .i64 C.wrong] 25) := by rw [hY, put3_other nUD']; exact put3_heap hU1
    have hD1 : (put3 (put3 W3 B (.slice f1 C.deeds.length p1) (.slice f2 C.sights.length p2) (.int .i64 C.wrong)) U (.slice g1 C.deeds.length m1) (.slice g2 C.sights.length m2) (.int .i64 C.wrong)).heap[D]? = some (.cells #[.slice none 0 0, .slice none 0 0, .int .i64 0] 25) := (put3_other nUD).trans ((put3_other nBD).trans HDb.out)
    have hYD : Y.heap[D]? = some (.cells #[.slice h1 C.deeds.length r1, .slice h2 C.sights.length r2, .int .i64 C.wrong] 25) := by rw [hY]; exact put3_heap hD1
    have hYb : Below z2.heap.size z2 Y := by rw [hY]; exact put3_below (put3_below (put3_below HB.out hB) hU) hD
    have hY1 : CopyAt z2.heap.size Y (.agg #[.slice f1 C.deeds.length p1, .slice f2 C.sights.length p2, .int .i64 C.wrong]) C := by rw [hY]; exact ((K1.out.put3 HBb.out).put3 hU1).put3 hD1
    have hY3 : CopyAt z2.heap.size Y (.agg #[.slice g1 C.deeds.length m1, .slice g2 C.sights.length m2, .int .i64 C.wrong]) C := by rw [hY]; exact ((K3.out.put3 HBb.out).put3 hU1).put3 hD1
    have hY5 : CopyAt z2.heap.size Y (.agg #[.slice h1 C.deeds.length r1, .slice h2 C.sights.length r2, .int .i64 C.wrong]) C := by rw [hY]; exact ((K5.out.put3 HBb.out).put3 hU1).put3 hD1
    unfold put3 at hY
    rw [← hY]
    clear hY hU1 hD1 t0 t1 t2 s0 s1 s2 u0 u1 u2 tf0 tf1 tf2 sf0 sf1 sf2 uf0 uf1 uf2 HBb HUb HDb HB K1 K3 K5
    have R1 := Lib.hid (Row3.of hYB hY1)
    have R3 := Lib.hid (Row3.of hYU hY3)
    have R5 := Lib.hid (Row3.of hYD hY5)
    have HYb := Lib.hid hYb
    have HSY := Lib.hid (HS2.out.next hYb)
    have HYY := Lib.hid ((hYb.block _ (heap_lt HY2.out)).trans HY2.out)
    have HXY := Lib.hid ((hYb.block _ (heap_lt HX2.out)).trans HX2.out)
    have hYsz := hYb.size
    clear hYB hYU hYD hYb hY1 hY3 hY5
    obtain ⟨y0, y1⟩ := box2l HYY.out
    obtain ⟨⟨t0, t1, t2⟩, tf⟩ := box3f_of R1.out.blk
    have R1a := Lib.hid (R1.out.next ((Below.refl _ Y).alloc (Nat.le_refl _) (.cells #[.int .i64 1, .int .i64 0, .int .i64 0, .int .i64 Y0, .int .i64 Y1] 55)))
    have R3a := Lib.hid (R3.out.next ((Below.refl _ Y).alloc (Nat.le_refl _) (.cells #[.int .i64 1, .int .i64 0, .int .i64 0, .int .i64 Y0, .int .i64 Y1] 55)))
    have R5a := Lib.hid (R5.out.next ((Below.refl _ Y).alloc (Nat.le_refl _) (.cells #[.int .i64 1, .int .i64 0, .int .i64 0, .int .i64 Y0, .int .i64 Y1] 55)))
    clear tf
    go_wp2_with (at_builtin; go_loud (refine wpList_onto (base := z2.heap.size) (v := .slice f1 C.deeds.length p1) (n := C.deeds.length) (xs := dcells C.deeds C.deeds.length) (A := some ⟨Y.heap.size, 0, none⟩) (m := 1) (c := 1) (news := [.int .i64 1, .int .i64 0, .int .i64 0, .int .i64 Y0, .int .i64 Y1]) rfl (.tmp 67) (.tmp 73) rfl Try.underlying22 hiB hzB0 hzB1 hzB2 rfl (by decide) rfl ?d0 rfl ?d1 (by simp [Value.oneCell']) (by unfold maxLen; omega) (by omega) (by simp; omega) ?_))
    case d0 => exact R1a.out.rd
    case d1 => exact ⟨rfl, fun _ => ⟨_, rfl, World.news_of_block (fr := (0, 0)) (heap_new _ _)⟩⟩
    intro q1a q1c w4' hown hgrow hat0
    have hat : (Value.slice q1a (C.deeds.length + 1) q1c).ownBlock = (.slice f1 C.deeds.length p1 : Value).ownBlock ∨ (Value.slice q1a (C.deeds.length + 1) q1c).ownBlock = some (Y.alloc (.cells #[.int .i64 1, .int .i64 0, .int .i64 0, .int .i64 Y0, .int .i64 Y1] 55)).heap.size := hat0.imp id (fun h => by rw [h, World.size_alloc])
    have hne := own_ne_type R1a.out.rd R1a.out.blk (by decide)
    have hblk := (hgrow.block _ (heap_lt R1a.out.blk) (fun e => hne e.symm)).trans R1a.out.blk
    have hM := Lib.hid (Row3.more (d := weldD Y0 Y1) R1a.out (by unfold DI64 weldD I64; simp; omega) hgrow hown)
    have hNR3b := Lib.hid ((R3a.out.grown R1a.out.rd A13.out hgrow).other (o := 0) (u := .slice q1a (C.deeds.length + 1) q1c) hblk nBU')
    have hAR3b := Lib.hid (apart_grown hat A13.out R3a.out.rd)
    have hNR5b := Lib.hid ((R5a.out.grown R1a.out.rd A15.out hgrow).other (o := 0) (u := .slice q1a (C.deeds.length + 1) q1c) hblk nBD')
    have hAR5b := Lib.hid (apart_grown hat A15.out R5a.out.rd)
    have hW := Lib.hid (below_setCell (b := B) (o := 0) (v := .slice q1a (C.deeds.length + 1) q1c) (((HYb.out.alloc hYsz (.cells #[.int .i64 1, .int .i64 0, .int .i64 0, .int .i64 Y0, .int .i64 Y1] 55)).grown hgrow (by simp; omega) (fun k e => (R1a.out.low k e).1))) (show z2.heap.size ≤ B from hB))
    obtain ⟨⟨t0', _, _⟩, tf⟩ := box3f_of hblk
    have tf0 := tf 0
    clear tf hblk hown hgrow hat hat0 hne t0 t1 t2
    go_upto_region 5 with fail
    obtain ⟨Z5, hZ5⟩ : ∃ Z5, w4'.setCell ⟨B, 0, none⟩ (.slice q1a (C.deeds.length + 1) q1c) = Z5 := ⟨_, rfl⟩
    rw [hZ5] at hM hNR3b hNR5b hW ⊢
    clear hZ5 R1 R3 R5 R1a R3a R5a t0' tf0 y0 y1 HSY HYY HXY HYb hYsz
    obtain ⟨gq, rfl, hgq1, hgq2, hfive⟩ := Row3.last rfl hM.out
    have HFIVE := Lib.hid hfive
    have HM5 := hM
    have HU5 := hNR3b
    have HD5 := hNR5b
    have HS5 := Lib.hid (HS2.out.next hW.out)
    have HX5 := Lib.hid ((hW.out.block _ (heap_lt HX2.out)).trans HX2.out)
    have hsz5 := hW.out.size
    have HW5 := hW
    have NU : ¬ ((.slice g1 C.deeds.length m1 : Value).ownBlock = some U ∨ Z5.heap.size ≤ U) := not_ok HU5.out.rd HU5.out.blk (by decide)
    have NB : ¬ ((.slice g1 C.deeds.length m1 : Value).ownBlock = some B ∨ Z5.heap.size ≤ B) := not_ok HU5.out.rd HM5.out.blk (by decide)
    have ND : ¬ ((.slice g1 C.deeds.length m1 : Value).ownBlock = some D ∨ Z5.heap.size ≤ D) := not_ok HU5.out.rd HD5.out.blk (by decide)
    have NW : ¬ ((.slice g1 C.deeds.length m1 : Value).ownBlock = some w.heap.size ∨ Z5.heap.size ≤ w.heap.size) := not_ok HU5.out.rd HS5.out.blk (by decide)
    have NG : ¬ ((.slice g1 C.deeds.length m1 : Value).ownBlock = some gq ∨ Z5.heap.size ≤ gq) := by
      rintro (h | h)
      · exact hAR3b.out gq rfl h
      · omega
    have NL := Lib.hid (show ∀ b, b < z2.heap.size → ¬ ((.slice g1 C.deeds.length m1 : Value).ownBlock = some b ∨ Z5.heap.size ≤ b) from fun b hb h => by
      rcases h with h | h
      · have := (HU5.out.rd.lt b h).1; omega
      · omega)
    have hn0 : (0 : Int) ≤ (C.deeds.length : Int) := by omega
    have hn1 : (C.deeds.length : Int) < (C.deeds.length : Int) + 1 := by omega
    clear hM hNR3b hNR5b hW hfive
    refine wp_region_lin (fun b => (.slice g1 C.deeds.length m1 : Value).ownBlock = some b ∨ Z5.heap.size ≤ b) _ 14 [76, 77, 78, 79, 80, 81, 82, 83, 84, 85, 86, 87, 88, 89] [lisV _ (.pointer (some ⟨U, 0, none⟩)), rowF _ z2.heap.size 55 5 (C.deeds.length) (dcells C.deeds C.deeds.length), lisV _ (.pointer (some ⟨B, 0, none⟩)), lisV _ (.slice (some ⟨gq, 0, none⟩) (C.deeds.length + 1) q1c), lisV _ (.pointer (some ⟨w.heap.size, 0, none⟩)), lisV _ (.slice a C.deeds.length cap), lisV _ (.int .i64 (C.deeds.length : Int)), lisV _ (.pointer (some ⟨gq, C.deeds.length * 5, none⟩)), lisV _ (.agg #[.int .i64 1, .int .i64 0, .int .i64 0, .int .i64 Y0, .int .i64 Y1]), srcF _ (.cells #[.int .i64 1, .int .i64 0, .int .i64 0, .int .i64 Y0, .int .i64 Y1] 55), rowF _ z2.heap.size 55 5 (C.deeds.length + 1) ((dcells C.deeds C.deeds.length) ++ [.int .i64 1, .int .i64 0, .int .i64 0, .int .i64 Y0, .int .i64 Y1]), lisV _ (.agg #[.int .i64 2, .int .i64 0, .int .i64 0, .int .i64 0, .int .i64 0]), srcF _ (.cells #[.int .i64 2, .int .i64 0, .int .i64 0, .int .i64 0, .int .i64 0] 55), rowF _ z2.heap.size 55 5 (C.deeds.length + 1 + 1) ((dcells C.deeds C.deeds.length ++ [.int .i64 1, .int .i64 0, .int .i64 0, .int .i64 Y0, .int .i64 Y1]) ++ [.int .i64 2, .int .i64 0, .int .i64 0, .int .i64 0, .int .i64 0])] (takeL [(10, 1), (13, 10)]) (own1 1 (.slice g1 C.deeds.length m1 : Value).ownBlock) (by kernel_rfl) (by kernel_rfl) (by kernel_rfl) (takeL_none (by decide)) (fun i b h => (HU5.out.rd.lt b (own1_some h).2).2) own1_inj (by kernel_rfl) rfl (by decide) (by decide) (by simp) ?step ?rest
    case step =>
      intro i ac W d hi hd hb hfirst hoff hdep
      have u0 := hb.cell NU (box3c HU5.out.blk).1
      have b0 := hb.cell NB (box3c HM5.out.blk).1
      have c0 := hb.cell NW (box3c HS5.out.blk).1
      have d0 := hb.cell NG HFIVE.out.1
      have d1 := hb.cell NG HFIVE.out.2.1
      have d2 := hb.cell NG HFIVE.out.2.2.1
      have d3 := hb.cell NG HFIVE.out.2.2.2.1
      have d4 := hb.cell NG HFIVE.out.2.2.2.2
      simp only [weldD] at d0 d1 d2 d3 d4
      have hi2 : i = 0 ∨ i = 1 ∨ i = 2 ∨ i = 3 ∨ i = 4 ∨ i = 5 ∨ i = 6 ∨ i = 7 ∨ i = 8 ∨ i = 9 ∨ i = 10 ∨ i = 11 ∨ i = 12 ∨ i = 13 := by omega
      rcases hi2 with rfl | rfl | rfl | rfl | rfl | rfl | rfl | rfl | rfl | rfl | rfl | rfl | rfl | rfl
      · obtain rfl : 76 = d := by simpa using hd
        have q8 : ac.tmps[8]?.getD undef = .pointer (some ⟨U, 0, none⟩) := (eval_tmp _ _).symm.trans <| (hoff 8 (by decide)).trans rfl
        refine lin_value rfl rfl rfl (v := .pointer (some ⟨U, 0, none⟩)) (W' := W) ?_ (World.grownBy.refl _ _) rfl (fun b h => by cases h)
        simp only [execOp]
        go_simp
      · obtain rfl : 77 = d := by simpa using hd
        have q76 : ac.tmps[76]?.getD undef = .pointer (some ⟨U, 0, none⟩) := (eval_tmp _ _).symm.trans (hdep 0 76 rfl rfl)
        refine lin_value rfl rfl rfl (v := .slice g1 C.deeds.length m1) (W' := W) ?_ (World.grownBy.refl _ _) ⟨own_first HU5.out.rd (fun b h => hfirst b (own1_self.trans h)), fun b h => .inl h⟩ (fun b h => .inr (own1_self.trans h))
        simp only [execOp]
        go_simp
      · obtain rfl : 78 = d := by simpa using hd
        have q7 : ac.tmps[7]?.getD undef = .pointer (some ⟨B, 0, none⟩) := (eval_tmp _ _).symm.trans <| (hoff 7 (by decide)).trans rfl
        refine lin_value rfl rfl rfl (v := .pointer (some ⟨B, 0, none⟩)) (W' := W) ?_ (World.grownBy.refl _ _) rfl (fun b h => by cases h)
        simp only [execOp]
        go_simp
      · obtain rfl : 79 = d := by simpa using hd
        have q78 : ac.tmps[78]?.getD undef = .pointer (some ⟨B, 0, none⟩) := (eval_tmp _ _).symm.trans (hdep 2 78 rfl rfl)
        refine lin_value rfl rfl rfl (v := .slice (some ⟨gq, 0, none⟩) (C.deeds.length + 1) q1c) (W' := W) ?_ (World.grownBy.refl _ _) rfl (fun b h => by cases h)
        simp only [execOp]
        go_simp
      · obtain rfl : 80 = d := by simpa using hd
        have q3 : ac.tmps[3]?.getD undef = .pointer (some ⟨w.heap.size, 0, none⟩) := (eval_tmp _ _).symm.trans <| (hoff 3 (by decide)).trans rfl
        refine lin_value rfl rfl rfl (v := .pointer (some ⟨w.heap.size, 0, none⟩)) (W' := W) ?_ (World.grownBy.refl _ _) rfl (fun b h => by cases h)
        simp only [execOp]
        go_simp
      · obtain rfl : 81 = d := by simpa using hd
        have q80 : ac.tmps[80]?.getD undef = .pointer (some ⟨w.heap.size, 0, none⟩) := (eval_tmp _ _).symm.trans (hdep 4 80 rfl rfl)
        refine lin_value rfl rfl rfl (v := .slice a C.deeds.length cap) (W' := W) ?_ (World.grownBy.refl _ _) rfl (fun b h => by cases h)
        simp only [execOp]
        go_simp
      · obtain rfl : 82 = d := by simpa using hd
        have q81 : ac.tmps[81]?.getD undef = .slice a C.deeds.length cap := (eval_tmp _ _).symm.trans (hdep 5 81 rfl rfl)
        refine lin_value rfl rfl rfl (v := .int .i64 (C.deeds.length : Int)) (W' := W) ?_ (World.grownBy.refl _ _) rfl (fun b h => by cases h)
        simp only [execOp]
        go_simp
      · obtain rfl : 83 = d := by simpa using hd
        have q79 : ac.tmps[79]?.getD undef = .slice (some ⟨gq, 0, none⟩) (C.deeds.length + 1) q1c := (eval_tmp _ _).symm.trans (hdep 3 79 rfl rfl)
        have q82 : ac.tmps[82]?.getD undef = .int .i64 (C.deeds.length : Int) := (eval_tmp _ _).symm.trans (hdep 6 82 rfl rfl)
        refine lin_value rfl rfl rfl (v := .pointer (some ⟨gq, C.deeds.length * 5, none⟩)) (W' := W) ?_ (World.grownBy.refl _ _) rfl (fun b h => by cases h)
        simp only [execOp]
        go_simp
      · obtain rfl : 84 = d := by simpa using hd
        have q83 : ac.tmps[83]?.getD undef = .pointer (some ⟨gq, C.deeds.length * 5, none⟩) := (eval_tmp _ _).symm.trans (hdep 7 83 rfl rfl)
        refine lin_value rfl rfl rfl (v := .agg #[.int .i64 1, .int .i64 0, .int .i64 0, .int .i64 Y0, .int .i64 Y1]) (W' := W) ?_ (World.grownBy.refl _ _) rfl (fun b h => by cases h)
        simp only [execOp]
        go_simp
      · obtain rfl : 85 = d := by simpa using hd
        have q84 : ac.tmps[84]?.getD undef = .agg #[.int .i64 1, .int .i64 0, .int .i64 0, .int .i64 Y0, .int .i64 Y1] := (eval_tmp _ _).symm.trans (hdep 8 84 rfl rfl)
        refine lin_value rfl rfl rfl (v := .slice (some ⟨W.heap.size, 0, none⟩) 1 1) (W' := W.alloc (.cells #[.int .i64 1, .int .i64 0, .int .i64 0, .int .i64 Y0, .int .i64 Y1] 55)) ?_ (below_grownBy ((Below.refl _ _).alloc (Nat.le_refl _) _)) ⟨_, rfl, .inr (by have := hb.size; omega), heap_new _ _⟩ (fun b h => .inl (src_key h))
        simp only [execOp]
        go_simp
      · obtain rfl : 86 = d := by simpa using hd
        have e77 : W.ownsRow z2.heap.size 55 5 (ac.eval (.tmp 77)) (C.deeds.length) (dcells C.deeds C.deeds.length) ∧ ∀ b, ((ac.eval (.tmp 77)) : Value).ownBlock = some b → ((.slice g1 C.deeds.length m1 : Value).ownBlock = some b ∨ Z5.heap.size ≤ b) := hdep 1 77 rfl rfl
        have e85 : ∃ A, (ac.eval (.tmp 85)) = .slice (some ⟨A, 0, none⟩) 1 1 ∧ ((.slice g1 C.deeds.length m1 : Value).ownBlock = some A ∨ Z5.heap.size ≤ A) ∧ W.heap[A]? = some (.cells #[.int .i64 1, .int .i64 0, .int .i64 0, .int .i64 Y0, .int .i64 Y1] 55) := hdep 9 85 rfl rfl
        obtain ⟨A, hA, hok, hblk⟩ := e85
        refine lin_onto (base := z2.heap.size) (nn := C.deeds.length) (m := 1) (c := 1) (j := 1) (xs := dcells C.deeds C.deeds.length) (news := [.int .i64 1, .int .i64 0, .int .i64 0, .int .i64 Y0, .int .i64 Y1]) 77 85 rfl rfl rfl rfl Try.underlying22 hiB hzB0 hzB1 hzB2 rfl (by decide) rfl e77.1 hA ⟨rfl, fun _ => ⟨_, rfl, World.news_of_block (fr := (0, 0)) hblk⟩⟩ (by simp [Value.oneCell']) (by unfold maxLen; omega) (by omega) (by have := hb.size; omega) rfl rfl rfl (fun A' c' W' h1 h2 h3 => ⟨⟨h1, fun b hb' => ?_⟩, rfl⟩)
        rcases h3 with h3 | h3
        · exact e77.2 b (h3 ▸ hb')
        · rw [h3] at hb'
          injection hb' with hb'
          exact .inr (by have := hb.size; omega)
      · obtain rfl : 87 = d := by simpa using hd
        refine lin_value rfl rfl rfl (v := .agg #[.int .i64 2, .int .i64 0, .int .i64 0, .int .i64 0, .int .i64 0]) (W' := W) ?_ (World.grownBy.refl _ _) rfl (fun b h => by cases h)
        simp only [execOp]
        go_simp
      · obtain rfl : 88 = d := by simpa using hd
        have q87 : ac.tmps[87]?.getD undef = .agg #[.int .i64 2, .int .i64 0, .int .i64 0, .int .i64 0, .int .i64 0] := (eval_tmp _ _).symm.trans (hdep 11 87 rfl rfl)
        refine lin_value rfl rfl rfl (v := .slice (some ⟨W.heap.size, 0, none⟩) 1 1) (W' := W.alloc (.cells #[.int .i64 2, .int .i64 0, .int .i64 0, .int .i64 0, .int .i64 0] 55)) ?_ (below_grownBy ((Below.refl _ _).alloc (Nat.le_refl _) _)) ⟨_, rfl, .inr (by have := hb.size; omega), heap_new _ _⟩ (fun b h => .inl (src_key h))
        simp only [execOp]
        go_simp
      · obtain rfl : 89 = d := by simpa using hd
        have e86 : W.ownsRow z2.heap.size 55 5 (ac.eval (.tmp 86)) (C.deeds.length + 1) ((dcells C.deeds C.deeds.length) ++ [.int .i64 1, .int .i64 0, .int .i64 0, .int .i64 Y0, .int .i64 Y1]) ∧ ∀ b, ((ac.eval (.tmp 86)) : Value).ownBlock = some b → ((.slice g1 C.deeds.length m1 : Value).ownBlock = some b ∨ Z5.heap.size ≤ b) := hdep 10 86 rfl rfl
        have e88 : ∃ A, (ac.eval (.tmp 88)) = .slice (some ⟨A, 0, none⟩) 1 1 ∧ ((.slice g1 C.deeds.length m1 : Value).ownBlock = some A ∨ Z5.heap.size ≤ A) ∧ W.heap[A]? = some (.cells #[.int .i64 2, .int .i64 0, .int .i64 0, .int .i64 0, .int .i64 0] 55) := hdep 12 88 rfl rfl
        obtain ⟨A, hA, hok, hblk⟩ := e88
        refine lin_onto (base := z2.heap.size) (nn := C.deeds.length + 1) (m := 1) (c := 1) (j := 10) (xs := dcells C.deeds C.deeds.length ++ [.int .i64 1, .int .i64 0, .int .i64 0, .int .i64 Y0, .int .i64 Y1]) (news := [.int .i64 2, .int .i64 0, .int .i64 0, .int .i64 0, .int .i64 0]) 86 88 rfl rfl rfl rfl Try.underlying22 hiB hzB0 hzB1 hzB2 rfl (by decide) rfl e86.1 hA ⟨rfl, fun _ => ⟨_, rfl, World.news_of_block (fr := (0, 0)) hblk⟩⟩ (by simp [Value.oneCell']) (by unfold maxLen; omega) (by omega) (by have := hb.size; omega) rfl rfl rfl (fun A' c' W' h1 h2 h3 => ⟨⟨h1, fun b hb' => ?_⟩, rfl⟩)
        rcases h3 with h3 | h3
        · exact e86.2 b (h3 ▸ hb')
        · rw [h3] at hb'
          injection hb' with hb'
          exact .inr (by have := hb.size; omega)
    case rest =>
      intro vs W5 hvl hbk hval
      obtain ⟨l0, l1, l2, l3, l4, l5, l6, l7, l8, l9, l10, l11, l12, l13, rfl⟩ : ∃ l0 l1 l2 l3 l4 l5 l6 l7 l8 l9 l10 l11 l12 l13, vs = [l0, l1, l2, l3, l4, l5, l6, l7, l8, l9, l10, l11, l12, l13] := by
        match vs, hvl with
        | [l0, l1, l2, l3, l4, l5, l6, l7, l8, l9, l10, l11, l12, l13], _ => exact ⟨l0, l1, l2, l3, l4, l5, l6, l7, l8, l9, l10, l11, l12, l13, rfl⟩
      obtain rfl : l0 = .pointer (some ⟨U, 0, none⟩) := by obtain ⟨u, e, h⟩ := hval 0 (by omega) (takeL_not (by decide)); have e2 : some l0 = some u := e; injection e2 with e2; subst e2; exact h
      obtain rfl : l2 = .pointer (some ⟨B, 0, none⟩) := by obtain ⟨u, e, h⟩ := hval 2 (by omega) (takeL_not (by decide)); have e2 : some l2 = some u := e; injection e2 with e2; subst e2; exact h
      obtain rfl : l3 = .slice (some ⟨gq, 0, none⟩) (C.deeds.length + 1) q1c := by obtain ⟨u, e, h⟩ := hval 3 (by omega) (takeL_not (by decide)); have e2 : some l3 = some u := e; injection e2 with e2; subst e2; exact h
      obtain rfl : l4 = .pointer (some ⟨w.heap.size, 0, none⟩) := by obtain ⟨u, e, h⟩ := hval 4 (by omega) (takeL_not (by decide)); have e2 : some l4 = some u := e; injection e2 with e2; subst e2; exact h
      obtain rfl : l5 = .slice a C.deeds.length cap := by obtain ⟨u, e, h⟩ := hval 5 (by omega) (takeL_not (by decide)); have e2 : some l5 = some u := e; injection e2 with e2; subst e2; exact h
      obtain rfl : l6 = .int .i64 (C.deeds.length : Int) := by obtain ⟨u, e, h⟩ := hval 6 (by omega) (takeL_not (by decide)); have e2 : some l6 = some u := e; injection e2 with e2; subst e2; exact h
      obtain rfl : l7 = .pointer (some ⟨gq, C.deeds.length * 5, none⟩) := by obtain ⟨u, e, h⟩ := hval 7 (by omega) (takeL_not (by decide)); have e2 : some l7 = some u := e; injection e2 with e2; subst e2; exact h
      obtain rfl : l8 = .agg #[.int .i64 1, .int .i64 0, .int .i64 0, .int .i64 Y0, .int .i64 Y1] := by obtain ⟨u, e, h⟩ := hval 8 (by omega) (takeL_not (by decide)); have e2 : some l8 = some u := e; injection e2 with e2; subst e2; exact h
      have k9 : ∃ A, l9 = .slice (some ⟨A, 0, none⟩) 1 1 ∧ ((.slice g1 C.deeds.length m1 : Value).ownBlock = some A ∨ Z5.heap.size ≤ A) ∧ W5.heap[A]? = some (.cells #[.int .i64 1, .int .i64 0, .int .i64 0, .int .i64 Y0, .int .i64 Y1] 55) := by obtain ⟨u, e, h⟩ := hval 9 (by omega) (takeL_not (by decide)); have e2 : some l9 = some u := e; injection e2 with e2; subst e2; exact h
      obtain rfl : l11 = .agg #[.int .i64 2, .int .i64 0, .int .i64 0, .int .i64 0, .int .i64 0] := by obtain ⟨u, e, h⟩ := hval 11 (by omega) (takeL_not (by decide)); have e2 : some l11 = some u := e; injection e2 with e2; subst e2; exact h
      have k12 : ∃ A, l12 = .slice (some ⟨A, 0, none⟩) 1 1 ∧ ((.slice g1 C.deeds.length m1 : Value).ownBlock = some A ∨ Z5.heap.size ≤ A) ∧ W5.heap[A]? = some (.cells #[.int .i64 2, .int .i64 0, .int .i64 0, .int .i64 0, .int .i64 0] 55) := by obtain ⟨u, e, h⟩ := hval 12 (by omega) (takeL_not (by decide)); have e2 : some l12 = some u := e; injection e2 with e2; subst e2; exact h
      have k13 : W5.ownsRow z2.heap.size 55 5 l13 (C.deeds.length + 1 + 1) ((dcells C.deeds C.deeds.length ++ [.int .i64 1, .int .i64 0, .int .i64 0, .int .i64 Y0, .int .i64 Y1]) ++ [.int .i64 2, .int .i64 0, .int .i64 0, .int .i64 0, .int .i64 0]) ∧ ∀ b, (l13 : Value).ownBlock = some b → ((.slice g1 C.deeds.length m1 : Value).ownBlock = some b ∨ Z5.heap.size ≤ b) := by obtain ⟨u, e, h⟩ := hval 13 (by omega) (takeL_not (by decide)); have e2 : some l13 = some u := e; injection e2 with e2; subst e2; exact h
      clear hval hvl
      obtain ⟨hr13, hk13⟩ := k13
      obtain ⟨q5a, q5c, rfl, _⟩ := own_form hr13
      have hub := (hbk.block _ (heap_lt HU5.out.blk) NU).trans HU5.out.blk
      have RU6 := Lib.hid (Row3.put (D := backC C Y0 Y1) HU5.out hbk NU (not_ok_row HU5.out.rd HU5.out.rs (by decide)) (by
        show W5.ownsRow z2.heap.size 55 5 _ (C.deeds ++ [weldD Y0 Y1] ++ [cutD]).length (dcells (C.deeds ++ [weldD Y0 Y1] ++ [cutD]) (C.deeds ++ [weldD Y0 Y1] ++ [cutD]).length)
        rw [dcells_two, plus_len, plus_len]
        exact hr13) rfl rfl (wf_plus (wf_plus HU5.out.wf (by unfold DI64 weldD I64; simp; omega)) (by unfold DI64 cutD I64; simp)))
      have RB6 := Lib.hid ((HM5.out.okKept hbk NB (not_ok_apart HM5.out.rd (apart_symm hAR3b.out)) (not_ok_row HU5.out.rd HM5.out.rs (by decide))).other (o := 0) (u := .slice q5a (C.deeds.length + 1 + 1) q5c) hub nBU)
      have RD6 := Lib.hid ((HD5.out.okKept hbk ND (not_ok_apart HD5.out.rd A35.out) (not_ok_row HU5.out.rd HD5.out.rs (by decide))).other (o := 0) (u := .slice q5a (C.deeds.length + 1 + 1) q5c) hub nUD')
      have HW6 := Lib.hid (below_setCell (b := U) (o := 0) (v := .slice q5a (C.deeds.length + 1 + 1) q5c) (hbk.below HW5.out hsz5 NL.out) hU)
      have HA6 := Lib.hid (show ∀ g, (.slice h1 C.deeds.length r1 : Value).ownBlock = some g → (Value.slice q5a (C.deeds.length + 1 + 1) q5c).ownBlock ≠ some g from fun g hg he => not_ok_apart HD5.out.rd A35.out g hg (hk13 g he))
      obtain ⟨⟨u0, _, _⟩, uf⟩ := box3f_of hub
      have uf0 := uf 0
      clear k9 k12 hr13 hk13 hub hbk uf NU NB ND NW NG
      simp only [putL, Act.put, List.drop, List.setIfInBounds_toArray, List.set_cons_zero, List.set_cons_succ]
      go_upto_region 6 with fail
      obtain ⟨Z6, hZ6⟩ : ∃ Z6, W5.setCell ⟨U, 0, none⟩ (.slice q5a (C.deeds.length + 1 + 1) q5c) = Z6 := ⟨_, rfl⟩
      rw [hZ6] at RU6 RB6 RD6 HW6 ⊢
      have hsz6 := HW6.out.size
      clear hZ6 u0 uf0 HU5 HM5 HD5 HS5 HX5 HW5 HFIVE NL
      obtain ⟨⟨t0, t1, t2⟩, tf⟩ := box3f_of RD6.out.blk
      have RD6a := Lib.hid (RD6.out.next ((Below.refl _ Z6).alloc (Nat.le_refl _) (.cells #[.int .i64 4, .int .i64 0, .int .i64 0, .int .i64 0, .int .i64 0] 55)))
      have RB6a := Lib.hid (RB6.out.next ((Below.refl _ Z6).alloc (Nat.le_refl _) (.cells #[.int .i64 4, .int .i64 0, .int .i64 0, .int .i64 0, .int .i64 0] 55)))
      have RU6a := Lib.hid (RU6.out.next ((Below.refl _ Z6).alloc (Nat.le_refl _) (.cells #[.int .i64 4, .int .i64 0, .int .i64 0, .int .i64 0, .int .i64 0] 55)))
      clear tf
      go_wp2_with (at_builtin; go_loud (refine wpList_onto (base := z2.heap.size) (v := .slice h1 C.deeds.length r1) (n := C.deeds.length) (xs := dcells C.deeds C.deeds.length) (A := some ⟨Z6.heap.size, 0, none⟩) (m := 1) (c := 1) (news := [.int .i64 4, .int .i64 0, .int .i64 0, .int .i64 0, .int .i64 0]) rfl (.tmp 92) (.tmp 94) rfl Try.underlying22 hiB hzB0 hzB1 hzB2 rfl (by decide) rfl ?d0 rfl ?d1 (by simp [Value.oneCell']) (by unfold maxLen; omega) (by omega) (by simp; omega) ?_))
      case d0 => exact RD6a.out.rd
      case d1 => exact ⟨rfl, fun _ => ⟨_, rfl, World.news_of_block (fr := (0, 0)) (heap_new _ _)⟩⟩
      intro q7a q7c w7' hown hgrow hat0
      have hat : (Value.slice q7a (C.deeds.length + 1) q7c).ownBlock = (.slice h1 C.deeds.length r1 : Value).ownBlock ∨ (Value.slice q7a (C.deeds.length + 1) q7c).ownBlock = some (Z6.alloc (.cells #[.int .i64 4, .int .i64 0, .int .i64 0, .int .i64 0, .int .i64 0] 55)).heap.size := hat0.imp id (fun h => by rw [h, World.size_alloc])
      have hne := own_ne_type RD6a.out.rd RD6a.out.blk (by decide)
      have hblk := (hgrow.block _ (heap_lt RD6a.out.blk) (fun e => hne e.symm)).trans RD6a.out.blk
      have hM := Lib.hid (Row3.more (d := proveD) RD6a.out (by unfold DI64 proveD I64; simp) hgrow hown)
      have hNRB7 := Lib.hid ((RB6a.out.grown RD6a.out.rd (apart_symm hAR5b.out) hgrow).other (o := 0) (u := .slice q7a (C.deeds.length + 1) q7c) hblk nBD)
      have hARB7 := Lib.hid (apart_grown hat (apart_symm hAR5b.out) RB6a.out.rd)
      have hNRU7 := Lib.hid ((RU6a.out.grown RD6a.out.rd HA6.out hgrow).other (o := 0) (u := .slice q7a (C.deeds.length + 1) q7c) hblk nUD)
      have hARU7 := Lib.hid (apart_grown hat HA6.out RU6a.out.rd)
      have hW := Lib.hid (below_setCell (b := D) (o := 0) (v := .slice q7a (C.deeds.length + 1) q7c) (((HW6.out.alloc hsz6 (.cells #[.int .i64 4, .int .i64 0, .int .i64 0, .int .i64 0, .int .i64 0] 55)).grown hgrow (by simp; omega) (fun k e => (RD6a.out.low k e).1))) (show z2.heap.size ≤ D from hD))
      obtain ⟨⟨t0', _, _⟩, tf⟩ := box3f_of hblk
      have tf0 := tf 0
      clear tf hblk hown hgrow hat hat0 hne t0 t1 t2
      go_upto_region 7 with fail
      obtain ⟨y0w, hz0w⟩ : ∃ y0w, w7'.setCell ⟨D, 0, none⟩ (.slice q7a (C.deeds.length + 1) q7c) = y0w := ⟨_, rfl⟩
      rw [hz0w] at hM hNRB7 hNRU7 hW ⊢
      clear hz0w RD6 RB6 RU6 RD6a RB6a RU6a t0' tf0 HW6 hsz6 hARB7 hARU7 hAR3b hAR5b HA6 A13 A15 A35
      have HS0 := Lib.hid (HS2.out.next hW.out)
      have HX0 := Lib.hid ((hW.out.block _ (heap_lt HX2.out)).trans HX2.out)
      have HO0 := Lib.hid (hNRB7.out.stat HS0.out.b)
      have HP0 := Lib.hid (hNRU7.out.stat HS0.out.b)
      have HQ0 := Lib.hid (hM.out.stat HS0.out.b)
      clear hM hNRB7 hNRU7 hW
      have HS0' : Hid (LStat w y0w w.heap.size (.slice a C.deeds.length cap) (.slice a2 C.sights.length cap2) (.int .i64 C.wrong) C) := HS0
      have HO0' : Hid (LStat w y0w B (.slice (some ⟨gq, 0, none⟩) (C.deeds.length + 1) q1c) (.slice f2 C.sights.length p2) (.int .i64 C.wrong) (weldC C Y0 Y1)) := HO0
      have HP0' : Hid (LStat w y0w U (.slice q5a (C.deeds.length + 1 + 1) q5c) (.slice g2 C.sights.length m2) (.int .i64 C.wrong) (backC C Y0 Y1)) := HP0
      have HQ0' : Hid (LStat w y0w D (.slice q7a (C.deeds.length + 1) q7c) (.slice h2 C.sights.length r2) (.int .i64 C.wrong) (provC C)) := HQ0
      clear HO0 HP0 HQ0
      have hV' := valid_iff.1 HV.out
      have hWV := weld_valid hV' h10 ⟨hy0, hy1⟩ ⟨hy2, hy3⟩
      have hBV := back_valid hV' h10 ⟨hy0, hy1⟩ ⟨hy2, hy3⟩
      have hPV := prov_valid hV' h10
      have HWV := Lib.hid (valid_iff.2 hWV)
      have HBV := Lib.hid (valid_iff.2 hBV)
      have HPV := Lib.hid (valid_iff.2 hPV)
      have hlt : X2 < weldsTo C.deeds C.deeds.length := by have := wB_iff.1 HL.out; omega
      have HLW := Lib.hid (show linkB (weldC C Y0 Y1) X2 = true from link_plus HL.out)
      have HLB := Lib.hid (show linkB (backC C Y0 Y1) X2 = true from link_plus HLW.out)
      have HLP := Lib.hid (show linkB (provC C) X2 = true from link_plus HL.out)
      obtain ⟨M, hM⟩ : ∃ M, (truthsP C).length = M := ⟨_, rfl⟩
      obtain ⟨E, hE⟩ : ∃ E, noneE M = E := ⟨_, rfl⟩
      have hek : E = 0 ∨ E = 3 := by rw [← hE, noneE]; split <;> simp
      have HE := Lib.hid (show noneE (truthsP C).length = E by rw [hM]; exact hE)
      have HEW := Lib.hid (show noneE (truthsP (weldC C Y0 Y1)).length = E by rw [weld_truths hV', List.length_map, hM]; exact hE)
      have HEB := Lib.hid (show noneE (truthsP (backC C Y0 Y1)).length = E by rw [back_many hV' hWV, hM]; exact hE)
      obtain ⟨VA, hVA⟩ : ∃ VA, srt ((truthsP C).map (placeOf C X2)) = VA := ⟨_, rfl⟩
      obtain ⟨VB, hVB⟩ : ∃ VB, VA.map nextP = VB := ⟨_, rfl⟩
      have HVA := Lib.hid hVA
      have HVB := Lib.hid (show srt ((truthsP (weldC C Y0 Y1)).map (placeOf (weldC C Y0 Y1) X2)) = VB by rw [weld_places hV' hlt, hVA, hVB])
      have HVD := Lib.hid (show srt ((truthsP (backC C Y0 Y1)).map (placeOf (backC C Y0 Y1) X2)) = VA by rw [back_places hV' hWV, hVA])
      have hlAB : VB.length = VA.length := by rw [← hVB, List.length_map]
      have hA40 : VA.length ≤ 40 := hVA ▸ where_len hV' X2 true
      have HAB := Lib.hid hlAB
      have HNX := Lib.hid (show ∀ k, k < VA.length → (-1 ≤ nth VA k ∧ nth VA k ≤ 12) ∧ nth VB k = nextP (nth VA k) from fun k hk => ⟨places_range hV' X2 _ (by rw [hVA]; exact nth_mem hk), by rw [← hVB]; exact nth_map hk⟩)
      have HND := Lib.hid (show C.deeds.length + 1 = (weldC C Y0 Y1).deeds.length from plus_len.symm)
      have HNB := Lib.hid (show C.deeds.length + 1 + 1 = (backC C Y0 Y1).deeds.length from by show _ = (C.deeds ++ [weldD Y0 Y1] ++ [cutD]).length; rw [plus_len, plus_len])
      have HNP := Lib.hid (show C.deeds.length + 1 = (provC C).deeds.length from plus_len.symm)
      have hB40 : VB.length ≤ 40 := by omega
      have HNN := Lib.hid (show M ≠ 0 → E = 0 from fun h => by rw [← hE, noneE, if_neg h])
      have HM := Lib.hid hM
      have HEM := Lib.hid (show E = 0 → M ≠ 0 from fun h e => by rw [← hE, e] at h; exact absurd h (by decide))
      have HV' := Lib.hid hV'
      have HN40 := Lib.hid (show C.deeds.length ≤ 40 by omega)
      clear hV' hWV hBV hPV hlt hM hE hVA hVB hlAB h10 hq0 hy0 hy1 hy2 hy3 hz0 hz1 hz2 hz3 hz4 hq1 hq2 hq3 hq4 hB hU hD nBU nBD nUD nBU' nBD' nUD' hp1 hm1 hr1 hW2 hBW hUW hDW hsz5 hn0 hn1 hgq1 hgq2
      obtain ⟨c0, c1, c2⟩ := HS0'.out.cells
      obtain ⟨x0, x1, x2⟩ := box3c HX0.out
      obtain ⟨o0, o1, o2⟩ := HO0'.out.cells
      obtain ⟨p0, p1', p2'⟩ := HP0'.out.cells
      obtain ⟨r0, r1', r2'⟩ := HQ0'.out.cells
      have HS0 := HS0'
      have HO0 := HO0'
      have HP0 := HP0'
      have HQ0 := HQ0'
      clear HS0' HO0' HP0' HQ0'
      go_wp2_with fail
      refine (Where_l HVA.out HE.out rfl rfl HS0.out.st HV.out HL.out).mono ?_
      rintro e z1 ⟨av, rfl, hv, hb⟩
      obtain ⟨aa, ak, ab, ao, rfl, am, _, _, _⟩ := hv.opened
      clear c0 c1 c2 x0 x1 x2 o0 o1 o2 p0 p1' p2' r0 r1' r2'
      have HS1 := Lib.hid (HS0.out.next hb)
      have HO1 := Lib.hid (HO0.out.next hb)
      have HP1 := Lib.hid (HP0.out.next hb)
      have HQ1 := Lib.hid (HQ0.out.next hb)
      have HX1 := Lib.hid ((hb.block _ (heap_lt HX0.out)).trans HX0.out)
      have HA1 := Lib.hid (hv)
      clear HS0 HO0 HP0 HQ0 HX0 hb
      obtain ⟨c0, c1, c2⟩ := HS1.out.cells
      obtain ⟨x0, x1, x2⟩ := box3c HX1.out
      obtain ⟨o0, o1, o2⟩ := HO1.out.cells
      obtain ⟨p0, p1', p2'⟩ := HP1.out.cells
      obtain ⟨r0, r1', r2'⟩ := HQ1.out.cells
      clear hv
      go_wp2_with fail
      refine (Where_l HVB.out HEW.out HND.out rfl HO1.out.st HWV.out HLW.out).mono ?_
      rintro e z2 ⟨gv, rfl, hv, hb⟩
      obtain ⟨ga, gk, gb, go, rfl, gm, _, _, _⟩ := hv.opened
      clear c0 c1 c2 x0 x1 x2 o0 o1 o2 p0 p1' p2' r0 r1' r2'
      have HS2 := Lib.hid (HS1.out.next hb)
      have HO2 := Lib.hid (HO1.out.next hb)
      have HP2 := Lib.hid (HP1.out.next hb)
      have HQ2 := Lib.hid (HQ1.out.next hb)
      have HX2 := Lib.hid ((hb.block _ (heap_lt HX1.out)).trans HX1.out)
      have HA2 := Lib.hid ((HA1.out.below hb).mono hb.size)
      have HG2 := Lib.hid (hv)
      clear HS1 HO1 HP1 HQ1 HX1 HA1 hb
      obtain ⟨c0, c1, c2⟩ := HS2.out.cells
      obtain ⟨x0, x1, x2⟩ := box3c HX2.out
      obtain ⟨o0, o1, o2⟩ := HO2.out.cells
      obtain ⟨p0, p1', p2'⟩ := HP2.out.cells
      obtain ⟨r0, r1', r2'⟩ := HQ2.out.cells
      clear hv
      go_wp2_with fail
      refine (Where_l HVD.out HEB.out HNB.out rfl HP2.out.st HBV.out HLB.out).mono ?_
      rintro e z3 ⟨fv, rfl, hv, hb⟩
      obtain ⟨fa, fk, fb, fo, rfl, fm, _, _, _⟩ := hv.opened
      clear c0 c1 c2 x0 x1 x2 o0 o1 o2 p0 p1' p2' r0 r1' r2'
      have HS3 := Lib.hid (HS2.out.next hb)
      have HO3 := Lib.hid (HO2.out.next hb)
      have HP3 := Lib.hid (HP2.out.next hb)
      have HQ3 := Lib.hid (HQ2.out.next hb)
      have HX3 := Lib.hid ((hb.block _ (heap_lt HX2.out)).trans HX2.out)
      have HA3 := Lib.hid ((HA2.out.below hb).mono hb.size)
      have HG3 := Lib.hid ((HG2.out.below hb).mono hb.size)
      have HF3 := Lib.hid (hv)
      clear HS2 HO2 HP2 HQ2 HX2 HA2 HG2 hb
      obtain ⟨c0, c1, c2⟩ := HS3.out.cells
      obtain ⟨x0, x1, x2⟩ := box3c HX3.out
      obtain ⟨o0, o1, o2⟩ := HO3.out.cells
      obtain ⟨p0, p1', p2'⟩ := HP3.out.cells
      obtain ⟨r0, r1', r2'⟩ := HQ3.out.cells
      clear hv
      have hnew := heap_new z3 (.cells #[.slice aa VA.length ak, .slice ga VB.length gk, .slice fa VA.length fk] 33)
      go_wp2_with (go_at_call 56; refine (isKnown_to (by assumption) _).mono ?_; rintro e wk ⟨rfl, rfl⟩)
      refine (small_any z3.heap.size 3 _ _ _ hnew (by omega) (fun i hi => by
        match i, hi with
        | 0, _ => exact ⟨_, _, _, rfl, hA40⟩
        | 1, _ => exact ⟨_, _, _, rfl, hB40⟩
        | 2, _ => exact ⟨_, _, _, rfl, hA40⟩)).mono ?_
      rintro e zz ⟨rfl, rfl⟩
      have hb := (Below.refl _ z3).alloc (Nat.le_refl _) (.cells #[.slice aa VA.length ak, .slice ga VB.length gk, .slice fa VA.length fk] 33)
      clear hnew c0 c1 c2 x0 x1 x2 o0 o1 o2 p0 p1' p2' r0 r1' r2'
      have HS4 := Lib.hid (HS3.out.next hb)
      have HO4 := Lib.hid (HO3.out.next hb)
      have HP4 := Lib.hid (HP3.out.next hb)
      have HQ4 := Lib.hid (HQ3.out.next hb)
      have HX4 := Lib.hid ((hb.block _ (heap_lt HX3.out)).trans HX3.out)
      have HA4 := Lib.hid ((HA3.out.below hb).mono hb.size)
      have HG4 := Lib.hid ((HG3.out.below hb).mono hb.size)
      have HF4 := Lib.hid ((HF3.out.below hb).mono hb.size)
      clear HS3 HO3 HP3 HQ3 HX3 HA3 HG3 HF3 hb
      obtain ⟨z4, hz4⟩ : ∃ z4, z3.alloc (.cells #[.slice aa VA.length ak, .slice ga VB.length gk, .slice fa VA.length fk] 33) = z4 := ⟨_, rfl⟩
      rw [hz4] at HS4 HO4 HP4 HQ4 HX4 HA4 HG4 HF4 ⊢
      clear hz4
      obtain ⟨c0, c1, c2⟩ := HS4.out.cells
      obtain ⟨x0, x1, x2⟩ := box3c HX4.out
      obtain ⟨o0, o1, o2⟩ := HO4.out.cells
      obtain ⟨p0, p1', p2'⟩ := HP4.out.cells
      obtain ⟨r0, r1', r2'⟩ := HQ4.out.cells
      have hlab : ((VA.length : Int) != (VB.length : Int)) = false := by have := HAB.out; simp; omega
      go_wp2_with fail
      refine (SameInts_to (r := true) (by simp) HA4.out HF4.out).mono ?_
      rintro e z5 ⟨rfl, hb⟩
      clear c0 c1 c2 x0 x1 x2 o0 o1 o2 p0 p1' p2' r0 r1' r2'
      have HS5 := Lib.hid (HS4.out.next hb)
      have HO5 := Lib.hid (HO4.out.next hb)
      have HP5 := Lib.hid (HP4.out.next hb)
      have HQ5 := Lib.hid (HQ4.out.next hb)
      have HX5 := Lib.hid ((hb.block _ (heap_lt HX4.out)).trans HX4.out)
      have HA5 := Lib.hid ((HA4.out.below hb).mono hb.size)
      have HG5 := Lib.hid ((HG4.out.below hb).mono hb.size)
      have HF5 := Lib.hid ((HF4.out.below hb).mono hb.size)
      clear HS4 HO4 HP4 HQ4 HX4 HA4 HG4 HF4 hb
      obtain ⟨c0, c1, c2⟩ := HS5.out.cells
      obtain ⟨x0, x1, x2⟩ := box3c HX5.out
      obtain ⟨o0, o1, o2⟩ := HO5.out.cells
      obtain ⟨p0, p1', p2'⟩ := HP5.out.cells
      obtain ⟨r0, r1', r2'⟩ := HQ5.out.cells
      go_upto_if 153 with fail
      rcases hek with rfl | rfl
      case inr =>
        go_wp2_with (go_at_call 14; refine (works_any _).mono ?_; rintro e wz ⟨rfl, hb⟩; have HBZ := Lib.hid (HS5.out.next hb).b; clear hb)
        go_ret
        exact ⟨rfl, HBZ.out⟩
      have hV' := HV'.out
      have hMne := HEM.out rfl
      have hne : (truthsP C).length ≠ 0 := by rw [HM.out]; exact hMne
      have hpos : 0 < VA.length := by rw [← HVA.out]; exact srt_pos hne _
      have hpos0 : ((VA.length : Int) == 0) = false := beq_eq_false_iff_ne.2 (by omega)
      obtain ⟨N, hN⟩ : ∃ N, weldsTo C.deeds C.deeds.length = N := ⟨_, rfl⟩
      have hN12 : N ≤ 12 := by have := weldsTo_le C.deeds C.deeds.length; omega
      have HWHO := Lib.hid (show srt ((truthsP (weldC C Y0 Y1)).map (linkAt (weldC C Y0 Y1) 0)) = [(N : Int)] by rw [weld_who hV' hne, hN])
      have HLEN := Lib.hid (show ((0 : Nat) : Int) < lenTo (weldC C Y0 Y1).deeds (weldC C Y0 Y1).deeds.length by
        have h0 := lenTo_nonneg hV'.deed (Nat.le_refl _)
        have h1 : lenTo (weldC C Y0 Y1).deeds (weldC C Y0 Y1).deeds.length = lenTo C.deeds C.deeds.length + 1 := by
          rw [show weldC C Y0 Y1 = plusD C (weldD Y0 Y1) from rfl, plus_lenAll]; simp [weldD]
        rw [h1]
        omega)
      obtain ⟨SL, hSL⟩ : ∃ SL, srt ((truthsP C).map (timesOf C X2)) = SL := ⟨_, rfl⟩
      obtain ⟨TL, hTL⟩ : ∃ TL, srt ((truthsP (provC C)).map (timesOf (provC C) X2)) = TL := ⟨_, rfl⟩
      have HSL := Lib.hid (show ansV C (linkB C X2) (timesOf C X2) = SL by rw [HL.out, ← hSL]; rfl)
      have HTL := Lib.hid (show ansV (provC C) (linkB (provC C) X2) (timesOf (provC C) X2) = TL by rw [HLP.out, ← hTL]; rfl)
      have HES := Lib.hid (show ansE C (linkB C X2) = 0 by rw [HL.out]; exact HE.out)
      have HET := Lib.hid (show ansE (provC C) (linkB (provC C) X2) = 0 by
        rw [HLP.out]
        show noneE (truthsP (provC C)).length = 0
        rw [prov_truths hV', List.length_map]
        exact HE.out)
      have hps := prov_spans (C := C) (link := X2) hV' hne
      dsimp only at hps
      rw [hSL, hTL, HVA.out] at hps
      have hSp : 0 < SL.length := hSL ▸ srt_pos hne _
      have hq0 := times_range hV' X2 _ (by rw [hSL]; exact nth_mem (i := 0) hSp)
      have hq1 := times_range hV' X2 _ (by rw [hSL]; exact nth_mem (i := SL.length - 1) (by omega))
      obtain ⟨sq0, hsq0⟩ : ∃ x, nth SL 0 = x := ⟨_, rfl⟩
      obtain ⟨sq1, hsq1⟩ : ∃ x, nth SL (SL.length - 1) = x := ⟨_, rfl⟩
      obtain ⟨tr0, htr0⟩ : ∃ x, nth TL 0 = x := ⟨_, rfl⟩
      obtain ⟨tr1, htr1⟩ : ∃ x, nth TL (TL.length - 1) = x := ⟨_, rfl⟩
      obtain ⟨va0, hva0⟩ : ∃ x, nth VA 0 = x := ⟨_, rfl⟩
      rw [hsq0, hsq1, htr0, htr1, hva0] at hps
      rw [hsq0] at hq0
      rw [hsq1] at hq1
      obtain ⟨hq00, hq01⟩ := hq0
      obtain ⟨hq10, hq11⟩ := hq1
      have HSP := Lib.hid (show spanL SL = .agg #[.int .i64 sq0, .int .i64 sq1] from by rw [spanL, hsq0, hsq1])
      have HTP := Lib.hid (show spanL TL = .agg #[.int .i64 tr0, .int .i64 tr1] from by rw [spanL, htr0, htr1])
      have HPS := Lib.hid hps
      have HVA0 := Lib.hid hva0
      have HNW := Lib.hid hN
      obtain ⟨qa, qk, qb, qo, hqe, _, QA, QC, _⟩ := HA5.out.opened
      cases hqe
      obtain ⟨rfl, hqb⟩ := QA.out hpos
      obtain ⟨ha, hk2, hb2, ho2, hge, _, GA, GC, _⟩ := HG5.out.opened
      cases hge
      obtain ⟨rfl, hgb⟩ := GA.out (by have := HAB.out; omega)
      clear hV' hMne hne hN hSL hTL hps hSp hsq0 hsq1 htr0 htr1 hva0 QA GA
      go_wp2_with fail
      go_loopw [16] (fun i wr => ∃ k : Nat, k ≤ VA.length ∧ i = .int .i64 k ∧ Hid (Below z5.heap.size z5 wr)) (fun i _ => VA.length - (intOf i).toNat)
      case atStart => exact ⟨0, Nat.zero_le _, rfl, Below.refl _ _⟩
      case round =>
        obtain ⟨k, hk, rfl, hbr⟩ := hrel
        clear c0 c1 c2 x0 x1 x2 o0 o1 o2 p0 p1' p2' r0 r1' r2'
        by_cases hlt : k < VA.length
        · have hcell := (hbr.out.cell (p := ⟨qb, qo + k, none⟩) hqb).trans (QC.out k hlt)
          have gcell := (hbr.out.cell (p := ⟨hb2, ho2 + k, none⟩) hgb).trans (GC.out k (by have := HAB.out; omega))
          obtain ⟨⟨n1, n2⟩, n3⟩ := HNX.out k hlt
          rw [n3] at gcell
          obtain ⟨vk, hvk⟩ : ∃ vk, nth VA k = vk := ⟨_, rfl⟩
          rw [hvk] at hcell gcell n1 n2
          have hk0 : (0 : Int) ≤ (k : Int) := by omega
          have hk1 : (k : Int) < (VA.length : Int) := by omega
          have hk2 : (k : Int) < (VB.length : Int) := by have := HAB.out; omega
          have w1 : ¬ vk < -1 := by omega
          have w2 : ¬ 12 < vk := by omega
          have w1' : decide (vk < -1) = false := decide_eq_false w1
          have w2' : decide (12 < vk) = false := decide_eq_false w2
          have hwr : IntKind.i64.wrap (vk + 1) = vk + 1 := IntWalk.i64_in _ (by omega)
          clear n3 hvk
          by_cases hneg : vk < 0
          · rw [nextP, if_pos hneg] at gcell
            have w3 : decide (vk < 0) = true := decide_eq_true hneg
            have w4 : ¬ 0 ≤ vk := by omega
            have w4' : decide (0 ≤ vk) = false := decide_eq_false w4
            go_upto_region 19 with fail
            go_quiet (fail)
            go_wp2
            exact ⟨⟨k + 1, by omega, by go_num, drewN_below hbr.out _⟩, by simp [intOf]; omega⟩
          · rw [nextP, if_neg hneg] at gcell
            have w3 : decide (vk < 0) = false := decide_eq_false hneg
            have w4 : 0 ≤ vk := by omega
            have w4' : decide (0 ≤ vk) = true := decide_eq_true w4
            go_upto_region 19 with fail
            go_quiet (fail)
            go_wp2
            exact ⟨⟨k + 1, by omega, by go_num, drewN_below hbr.out _⟩, by simp [intOf]; omega⟩
        · obtain rfl : VA.length = k := by omega
          clear hlt hk
          have hb := hbr.out
          clear hbr
          have HS6 := Lib.hid (HS5.out.next hb)
          have HO6 := Lib.hid (HO5.out.next hb)
          have HP6 := Lib.hid (HP5.out.next hb)
          have HQ6 := Lib.hid (HQ5.out.next hb)
          have HX6 := Lib.hid ((hb.block _ (heap_lt HX5.out)).trans HX5.out)
          have HA6 := Lib.hid ((HA5.out.below hb).mono hb.size)
          have HG6 := Lib.hid ((HG5.out.below hb).mono hb.size)
          have HF6 := Lib.hid ((HF5.out.below hb).mono hb.size)
          clear HS5 HO5 HP5 HQ5 HX5 HA5 HG5 HF5 hb
          obtain ⟨z6, hz6⟩ : ∃ z, wr = z := ⟨_, rfl⟩
          rw [hz6] at HS6 HO6 HP6 HQ6 HX6 HA6 HG6 HF6 ⊢
          clear hz6
          obtain ⟨c0, c1, c2⟩ := HS6.out.cells
          obtain ⟨x0, x1, x2⟩ := box3c HX6.out
          obtain ⟨o0, o1, o2⟩ := HO6.out.cells
          obtain ⟨p0, p1', p2'⟩ := HP6.out.cells
          obtain ⟨r0, r1', r2'⟩ := HQ6.out.cells
          go_wp2_with fail
          refine (Who_l (at_ := 0) HWHO.out HEW.out HND.out rfl HO6.out.st HWV.out HLEN.out).mono ?_
          rintro e z7 ⟨lv, rfl, hv, hb⟩
          obtain ⟨la, lk, lb, lo, rfl, lm, _, _, _⟩ := hv.opened
          clear c0 c1 c2 x0 x1 x2 o0 o1 o2 p0 p1' p2' r0 r1' r2'
          have HS7 := Lib.hid (HS6.out.next hb)
          have HO7 := Lib.hid (HO6.out.next hb)
          have HP7 := Lib.hid (HP6.out.next hb)
          have HQ7 := Lib.hid (HQ6.out.next hb)
          have HX7 := Lib.hid ((hb.block _ (heap_lt HX6.out)).trans HX6.out)
          have HA7 := Lib.hid ((HA6.out.below hb).mono hb.size)
          have HG7 := Lib.hid ((HG6.out.below hb).mono hb.size)
          have HF7 := Lib.hid ((HF6.out.below hb).mono hb.size)
          have HL7 := Lib.hid (hv)
          clear HS6 HO6 HP6 HQ6 HX6 HA6 HG6 HF6 hb
          obtain ⟨c0, c1, c2⟩ := HS7.out.cells
          obtain ⟨x0, x1, x2⟩ := box3c HX7.out
          obtain ⟨o0, o1, o2⟩ := HO7.out.cells
          obtain ⟨p0, p1', p2'⟩ := HP7.out.cells
          obtain ⟨r0, r1', r2'⟩ := HQ7.out.cells
          clear hv
          go_wp2_with fail
          refine (Proofs_v HSL.out HES.out rfl rfl HS7.out.st HV.out).mono ?_
          rintro e z8 ⟨rfl, hb⟩
          rw [HSP.out]
          clear c0 c1 c2 x0 x1 x2 o0 o1 o2 p0 p1' p2' r0 r1' r2'
          have HS8 := Lib.hid (HS7.out.next hb)
          have HO8 := Lib.hid (HO7.out.next hb)
          have HP8 := Lib.hid (HP7.out.next hb)
          have HQ8 := Lib.hid (HQ7.out.next hb)
          have HX8 := Lib.hid ((hb.block _ (heap_lt HX7.out)).trans HX7.out)
          have HA8 := Lib.hid ((HA7.out.below hb).mono hb.size)
          have HG8 := Lib.hid ((HG7.out.below hb).mono hb.size)
          have HF8 := Lib.hid ((HF7.out.below hb).mono hb.size)
          have HL8 := Lib.hid ((HL7.out.below hb).mono hb.size)
          clear HS7 HO7 HP7 HQ7 HX7 HA7 HG7 HF7 HL7 hb
          obtain ⟨c0, c1, c2⟩ := HS8.out.cells
          obtain ⟨x0, x1, x2⟩ := box3c HX8.out
          obtain ⟨o0, o1, o2⟩ := HO8.out.cells
          obtain ⟨p0, p1', p2'⟩ := HP8.out.cells
          obtain ⟨r0, r1', r2'⟩ := HQ8.out.cells
          have hb := (Below.refl _ z8).alloc (Nat.le_refl _) (.cells #[.int .i64 sq0, .int .i64 sq1] 42)
          have hpn := heap_new z8 (.cells #[.int .i64 sq0, .int .i64 sq1] 42)
          clear c0 c1 c2 x0 x1 x2 o0 o1 o2 p0 p1' p2' r0 r1' r2'
          have HS9 := Lib.hid (HS8.out.next hb)
          have HO9 := Lib.hid (HO8.out.next hb)
          have HP9 := Lib.hid (HP8.out.next hb)
          have HQ9 := Lib.hid (HQ8.out.next hb)
          have HX9 := Lib.hid ((hb.block _ (heap_lt HX8.out)).trans HX8.out)
          have HA9 := Lib.hid ((HA8.out.below hb).mono hb.size)
          have HG9 := Lib.hid ((HG8.out.below hb).mono hb.size)
          have HF9 := Lib.hid ((HF8.out.below hb).mono hb.size)
          have HL9 := Lib.hid ((HL8.out.below hb).mono hb.size)
          have HJ9 := Lib.hid (hpn)
          clear HS8 HO8 HP8 HQ8 HX8 HA8 HG8 HF8 HL8 hb
          clear hpn
          obtain ⟨c0, c1, c2⟩ := HS9.out.cells
          obtain ⟨x0, x1, x2⟩ := box3c HX9.out
          obtain ⟨o0, o1, o2⟩ := HO9.out.cells
          obtain ⟨p0, p1', p2'⟩ := HP9.out.cells
          obtain ⟨r0, r1', r2'⟩ := HQ9.out.cells
          obtain ⟨s0, s1⟩ := box2l HJ9.out
          go_wp2_with fail
          refine (Proofs_v HTL.out HET.out HNP.out rfl HQ9.out.st HPV.out).mono ?_
          rintro e z10 ⟨rfl, hb⟩
          rw [HTP.out]
          clear c0 c1 c2 x0 x1 x2 o0 o1 o2 p0 p1' p2' r0 r1' r2' s0 s1
          have HS10 := Lib.hid (HS9.out.next hb)
          have HO10 := Lib.hid (HO9.out.next hb)
          have HP10 := Lib.hid (HP9.out.next hb)
          have HQ10 := Lib.hid (HQ9.out.next hb)
          have HX10 := Lib.hid ((hb.block _ (heap_lt HX9.out)).trans HX9.out)
          have HA10 := Lib.hid ((HA9.out.below hb).mono hb.size)
          have HG10 := Lib.hid ((HG9.out.below hb).mono hb.size)
          have HF10 := Lib.hid ((HF9.out.below hb).mono hb.size)
          have HL10 := Lib.hid ((HL9.out.below hb).mono hb.size)
          have HJ10 := Lib.hid ((hb.block _ (heap_lt HJ9.out)).trans HJ9.out)
          clear HS9 HO9 HP9 HQ9 HX9 HA9 HG9 HF9 HL9 HJ9 hb
          obtain ⟨c0, c1, c2⟩ := HS10.out.cells
          obtain ⟨x0, x1, x2⟩ := box3c HX10.out
          obtain ⟨o0, o1, o2⟩ := HO10.out.cells
          obtain ⟨p0, p1', p2'⟩ := HP10.out.cells
          obtain ⟨r0, r1', r2'⟩ := HQ10.out.cells
          obtain ⟨s0, s1⟩ := box2l HJ10.out
          have hb := (Below.refl _ z10).alloc (Nat.le_refl _) (.cells #[.int .i64 tr0, .int .i64 tr1] 42)
          have hpn := heap_new z10 (.cells #[.int .i64 tr0, .int .i64 tr1] 42)
          clear c0 c1 c2 x0 x1 x2 o0 o1 o2 p0 p1' p2' r0 r1' r2' s0 s1
          have HS11 := Lib.hid (HS10.out.next hb)
          have HO11 := Lib.hid (HO10.out.next hb)
          have HP11 := Lib.hid (HP10.out.next hb)
          have HQ11 := Lib.hid (HQ10.out.next hb)
          have HX11 := Lib.hid ((hb.block _ (heap_lt HX10.out)).trans HX10.out)
          have HA11 := Lib.hid ((HA10.out.below hb).mono hb.size)
          have HG11 := Lib.hid ((HG10.out.below hb).mono hb.size)
          have HF11 := Lib.hid ((HF10.out.below hb).mono hb.size)
          have HL11 := Lib.hid ((HL10.out.below hb).mono hb.size)
          have HJ11 := Lib.hid ((hb.block _ (heap_lt HJ10.out)).trans HJ10.out)
          have HT11 := Lib.hid (hpn)
          clear HS10 HO10 HP10 HQ10 HX10 HA10 HG10 HF10 HL10 HJ10 hb
          clear hpn
          obtain ⟨c0, c1, c2⟩ := HS11.out.cells
          obtain ⟨x0, x1, x2⟩ := box3c HX11.out
          obtain ⟨o0, o1, o2⟩ := HO11.out.cells
          obtain ⟨p0, p1', p2'⟩ := HP11.out.cells
          obtain ⟨r0, r1', r2'⟩ := HQ11.out.cells
          obtain ⟨s0, s1⟩ := box2l HJ11.out
          obtain ⟨t0, t1⟩ := box2l HT11.out
          go_wp2_with fail
          refine (Welds_any _ C _ HN40.out HS11.out.st).mono ?_
          rintro e z12 ⟨wa, wc, rfl, _, hb⟩
          rw [HNW.out]
          clear c0 c1 c2 x0 x1 x2 o0 o1 o2 p0 p1' p2' r0 r1' r2' s0 s1 t0 t1
          have HS12 := Lib.hid (HS11.out.next hb)
          have HO12 := Lib.hid (HO11.out.next hb)
          have HP12 := Lib.hid (HP11.out.next hb)
          have HQ12 := Lib.hid (HQ11.out.next hb)
          have HX12 := Lib.hid ((hb.block _ (heap_lt HX11.out)).trans HX11.out)
          have HA12 := Lib.hid ((HA11.out.below hb).mono hb.size)
          have HG12 := Lib.hid ((HG11.out.below hb).mono hb.size)
          have HF12 := Lib.hid ((HF11.out.below hb).mono hb.size)
          have HL12 := Lib.hid ((HL11.out.below hb).mono hb.size)
          have HJ12 := Lib.hid ((hb.block _ (heap_lt HJ11.out)).trans HJ11.out)
          have HT12 := Lib.hid ((hb.block _ (heap_lt HT11.out)).trans HT11.out)
          clear HS11 HO11 HP11 HQ11 HX11 HA11 HG11 HF11 HL11 HJ11 HT11 hb
          obtain ⟨c0, c1, c2⟩ := HS12.out.cells
          obtain ⟨x0, x1, x2⟩ := box3c HX12.out
          obtain ⟨o0, o1, o2⟩ := HO12.out.cells
          obtain ⟨p0, p1', p2'⟩ := HP12.out.cells
          obtain ⟨r0, r1', r2'⟩ := HQ12.out.cells
          obtain ⟨s0, s1⟩ := box2l HJ12.out
          obtain ⟨t0, t1⟩ := box2l HT12.out
          have hnew := heap_new z12 (.cells #[.int .i64 (N : Int)] 3)
          go_wp2_with fail
          refine (SameInts_to (r := true) (a := [(N : Int)]) (b := [(N : Int)]) (by simp) (HL12.out.below ((Below.refl _ z12).alloc (Nat.le_refl _) (.cells #[.int .i64 (N : Int)] 3))) (ints_lit (B := z12.heap.size + 1) (xs := [(N : Int)]) hnew (Nat.lt_succ_self _) rfl (lit1 _) (by intro x hx; obtain rfl := List.mem_singleton.1 hx; unfold I64; omega) (by unfold maxLen; simp))).mono ?_
          rintro e z13 ⟨rfl, hb0⟩
          have hb := ((Below.refl _ z12).alloc (Nat.le_refl _) (.cells #[.int .i64 (N : Int)] 3)).trans (hb0.mono (by simp))
          clear hnew hb0 c0 c1 c2 x0 x1 x2 o0 o1 o2 p0 p1' p2' r0 r1' r2' s0 s1 t0 t1
          have HS13 := Lib.hid (HS12.out.next hb)
          have HO13 := Lib.hid (HO12.out.next hb)
          have HP13 := Lib.hid (HP12.out.next hb)
          have HQ13 := Lib.hid (HQ12.out.next hb)
          have HX13 := Lib.hid ((hb.block _ (heap_lt HX12.out)).trans HX12.out)
          have HA13 := Lib.hid ((HA12.out.below hb).mono hb.size)
          have HG13 := Lib.hid ((HG12.out.below hb).mono hb.size)
          have HF13 := Lib.hid ((HF12.out.below hb).mono hb.size)
          have HL13 := Lib.hid ((HL12.out.below hb).mono hb.size)
          have HJ13 := Lib.hid ((hb.block _ (heap_lt HJ12.out)).trans HJ12.out)
          have HT13 := Lib.hid ((hb.block _ (heap_lt HT12.out)).trans HT12.out)
          clear HS12 HO12 HP12 HQ12 HX12 HA12 HG12 HF12 HL12 HJ12 HT12 hb
          obtain ⟨c0, c1, c2⟩ := HS13.out.cells
          obtain ⟨x0, x1, x2⟩ := box3c HX13.out
          obtain ⟨o0, o1, o2⟩ := HO13.out.cells
          obtain ⟨p0, p1', p2'⟩ := HP13.out.cells
          obtain ⟨r0, r1', r2'⟩ := HQ13.out.cells
          obtain ⟨s0, s1⟩ := box2l HJ13.out
          obtain ⟨t0, t1⟩ := box2l HT13.out
          obtain ⟨qa2, qk2, qb2, qo2, hqe2, _, QA2, QC2, _⟩ := HA13.out.opened
          cases hqe2
          obtain ⟨hq3, _⟩ := QA2.out hpos
          injection hq3 with hq3
          injection hq3 with hq4 hq5 _
          subst hq4 hq5
          have ac0 := QC2.out 0 hpos
          rw [HVA0.out, Nat.add_zero] at ac0
          clear QA2 QC2 QC GC
          have hi0 : (0 : Int) < (VA.length : Int) := by omega
          have hw0 : IntKind.i64.wrap (sq0 + 1) = sq0 + 1 := IntWalk.i64_in _ (by omega)
          have hw1 : IntKind.i64.wrap (sq1 + 1) = sq1 + 1 := IntWalk.i64_in _ (by omega)
          by_cases hv0 : 0 ≤ va0
          · obtain ⟨rfl, rfl⟩ := HPS.out.1 hv0
            have hv0' : decide (0 ≤ va0) = true := decide_eq_true hv0
            go_wp2_with (go_at_call 14; refine (works_any _).mono ?_; rintro e wz ⟨rfl, hb⟩; have HBZ := Lib.hid (HS13.out.next hb).b; clear hb)
            go_ret
            exact ⟨rfl, HBZ.out⟩
          · obtain ⟨g1', g2', g3'⟩ := HPS.out.2 (by omega)
            have hv0' : decide (0 ≤ va0) = false := decide_eq_false hv0
            by_cases hl1 : 1 < VA.length
            · have hl1' : (1 : Int) < (VA.length : Int) := by omega
              go_wp2_with (go_at_call 14; refine (works_any _).mono ?_; rintro e wz ⟨rfl, hb⟩; have HBZ := Lib.hid (HS13.out.next hb).b; clear hb)
              go_ret
              exact ⟨rfl, HBZ.out⟩
            · obtain ⟨rfl, rfl⟩ := g3' (by omega)
              have hl1' : ¬ (1 : Int) < (VA.length : Int) := by omega
              have hle : tr1 ≤ tr1 + 1 := by omega
              go_wp2_with (go_at_call 14; refine (works_any _).mono ?_; rintro e wz ⟨rfl, hb⟩; have HBZ := Lib.hid (HS13.out.next hb).b; clear hb)
              go_ret
              exact ⟨rfl, HBZ.out⟩

end Go.Proofs.Ythclinhikhinpaa
