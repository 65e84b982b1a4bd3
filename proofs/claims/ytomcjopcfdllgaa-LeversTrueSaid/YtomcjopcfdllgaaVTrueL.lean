/-
  Levers, the theorem of each truth: the law's body.
-/
import Derived.Test.YtomcjopcfdllgaaVRefT
import Derived.Test.YtomcjopcfdllgaaVStrange
import Derived.Test.YtomcjopcfdllgaaVFew
import Derived.Test.YtomcjopcfdllgaaVWeightsM

namespace Go.Proofs.Ytomcjopcfdllgaa
open Go.RowKit Go.Shelf

theorem ask3_iff {x y z : Int} : ask3 x y z = true ↔ (0 ≤ x ∧ x ≤ 9999) ∧ (0 ≤ y ∧ y ≤ 99) ∧ 0 ≤ z ∧ z ≤ 999999999 := by
  simp only [ask3, Bool.and_eq_true, wB_iff, and_assoc]
theorem askB_all {x y z : Int} (hx : 0 ≤ x ∧ x ≤ 9999) (hy : 0 ≤ y ∧ y ≤ 99) (hz : 0 ≤ z ∧ z ≤ 999999999) : askB x y z 0 = true := askB_iff.2 ⟨hx, hy, hz, by decide⟩
theorem pad_nth {x : List Int} {i : Nat} (h : i < x.length) : pad x i = nth x i := by simp [pad, nth, List.getD, h]
/-- The answers that a truth's arm is in. -/
theorem arm_answer {M : Mach} (hV : ValidM M) {ss : List Int} {sl : Int} (hs : (ss, sl) ∈ truthsM M) {lev : Nat} (hl : lev < ss.length) {b : Nat} {e : Ending} {w' : World} (h : AnsAt (fun x => ∃ s ∈ truthsM M, pad s.1 lev = x) (truthsM M = []) b e w') :
    ∃ v L, e = .returned (.tuple #[v, .int .i64 0]) ∧ nth ss lev ∈ L ∧ IntsAt w'.heap.size w' v L := by
  obtain ⟨v, L, h1, ⟨_, h2⟩, h3⟩ := h.2 (fun he => by rw [he] at hs; cases hs)
  refine ⟨v, L, h1, (h2 _).2 ⟨_, hs, pad_nth hl⟩, ints_of_own h3 (fun x hx => ?_)⟩
  obtain ⟨s, hs2, rfl⟩ := (h2 x).1 hx
  have hin := inSet_of hV (mem_truths.1 hs2).1
  have h4 := (arms_pad (mem_sets.1 (mem_truths.1 hs2).1).1).2 lev
  have h5 := short_ok hV lev
  unfold I64
  omega
theorem leak_answer {M : Mach} (hV : ValidM M) {ss : List Int} {sl : Int} (hs : (ss, sl) ∈ truthsM M) {b : Nat} {e : Ending} {w' : World} (h : AnsAt (fun x => ∃ s ∈ truthsM M, s.2 = x) (truthsM M = []) b e w') :
    ∃ v L, e = .returned (.tuple #[v, .int .i64 0]) ∧ sl ∈ L ∧ IntsAt w'.heap.size w' v L := by
  obtain ⟨v, L, h1, ⟨_, h2⟩, h3⟩ := h.2 (fun he => by rw [he] at hs; cases hs)
  refine ⟨v, L, h1, (h2 _).2 ⟨_, hs, rfl⟩, ints_of_own h3 (fun x hx => ?_)⟩
  obtain ⟨s, hs2, rfl⟩ := (h2 x).1 hx
  have hin := inSet_of hV (mem_truths.1 hs2).1
  have := hin.2.2
  unfold I64
  omega
theorem load_has {M : Mach} {ss : List Int} {sl w m : Int} (hs : (ss, sl) ∈ truthsM M) : loadLo M w m ≤ force M w m sl / prodL ss ∧ upD (force M w m sl) (prodL ss) ≤ loadHi M w m := by
  obtain ⟨_, a2, _⟩ := minI_fold ((truthsM M).map (fun s => force M w m s.2 / prodL s.1)) 9223372036854775807
  obtain ⟨_, b2, _⟩ := maxI_fold ((truthsM M).map (fun s => upD (force M w m s.2) (prodL s.1))) (-1)
  exact ⟨a2 _ (List.mem_map.2 ⟨_, hs, rfl⟩), b2 _ (List.mem_map.2 ⟨_, hs, rfl⟩)⟩
theorem strange_not {M : Mach} {ss : List Int} {sl : Int} (hs : (ss, sl) ∈ truthsM M) {x : Int} (hx : x ∈ strM M) : ∃ B : Nat, x = (B : Int) ∧ B < M.bals.length ∧ rightP M sl (prodL ss) (bnth M.bals B) = false := by
  unfold strM strTo at hx
  obtain ⟨i, hi, rfl⟩ := List.mem_map.1 hx
  obtain ⟨h1, h2⟩ := List.mem_filter.1 hi
  refine ⟨i, rfl, List.mem_range.1 h1, ?_⟩
  have h3 : someR M i = false := by simpa using h2
  unfold someR at h3
  have h4 := List.any_eq_false.1 h3 (ss, sl) hs
  cases h5 : rightP M sl (prodL ss) (bnth M.bals i) with
  | false => rfl
  | true => exact absurd h5 h4
theorem fold_has {α : Type} (l : List α) (f : α → Nat) (n : Nat) {x : α} (hx : x ∈ l) : (l.map f).foldl min n ≤ f x := (foldl_min_le (l.map f) n).2.1 (f x) (List.mem_map.2 ⟨x, hx, rfl⟩)
theorem few_has {M : Mach} {ss : List Int} {sl : Int} (hs : (ss, sl) ∈ truthsM M) : fewestM M ≤ wrongsP M sl (prodL ss) := by
  have h := fold_has (setsM M) (fun s => wrongsP M s.2 (prodL s.1)) M.bals.length (mem_truths.1 hs).1
  unfold fewestM
  exact h
theorem filt_has {α : Type} (l : List α) (q : α → Bool) {x : α} (hx : x ∈ l) : (l.filter q).length ≤ l.length ∧ 0 < l.length ∧ (q x = true → 0 < (l.filter q).length) ∧ (q x = false → (l.filter q).length < l.length) := by
  have h1 : (l.filter q).length ≤ l.length := List.length_filter_le _ _
  refine ⟨h1, List.length_pos_of_mem hx, fun h => List.length_pos_of_mem (List.mem_filter.2 ⟨hx, h⟩), fun h => ?_⟩
  refine Nat.lt_of_le_of_ne h1 (fun he => ?_)
  have h2 := List.length_filter_eq_length_iff.1 he x hx
  rw [h] at h2
  cases h2
theorem pulled_has {M : Mach} {ss : List Int} {sl w m load : Int} (hs : (ss, sl) ∈ truthsM M) :
    pulledN M w m load ≤ (truthsM M).length ∧ 0 < (truthsM M).length ∧ (pullsB M w m load sl (prodL ss) = true → 0 < pulledN M w m load) ∧ (pullsB M w m load sl (prodL ss) = false → pulledN M w m load < (truthsM M).length) := by
  unfold pulledN
  have h := filt_has (truthsM M) (fun s => pullsB M w m load s.2 (prodL s.1)) hs
  exact ⟨h.1, h.2.1, fun e => h.2.2.1 e, fun e => h.2.2.2 e⟩

set_option maxRecDepth 100000 in
set_option maxHeartbeats 16000000 in
theorem LeversTrue_any (v : Value) (M : Mach) (sv : Value) (ss : List Int) (sl x0 x1 x2 : Int) (w : World) (hx : MachAt w.heap.size w v M) (hs : IntsAt w.heap.size w sv ss) (hsl : I64 sl) (_hi : I64 x0 ∧ I64 x1 ∧ I64 x2) :
    Calls Try.prog 3 #[v, .agg #[sv, .int .i64 sl], .agg #[.int .i64 x0, .int .i64 x1, .int .i64 x2]] w fun e w' => e = .returned (.bool true) ∧ Below w.heap.size w w' := by
  have HX := Lib.hid (fun W (hb : Below w.heap.size w W) => (hx.below hb).mono hb.size)
  have HS := Lib.hid (fun W (hb : Below w.heap.size w W) => (hs.below hb).mono hb.size)
  have HSL := Lib.hid hsl
  obtain ⟨a, cap, a2, cap2, rfl⟩ := hx.form
  obtain ⟨sa, sc, sb0, so0, rfl, hsc, hscm, _⟩ := id hs
  unfold maxLen at hscm
  clear hx hs hsl
  go_enter Try.func3, Try.ntmps3
  go_wp2_with fail
  obtain ⟨W, hW⟩ : ∃ W, W = ((w.alloc (.cells #[.slice a M.levers.length cap, .int .i64 M.water, .int .i64 M.lkLo, .int .i64 M.lkHi, .slice a2 M.bals.length cap2, .int .i64 M.wrong] 27)).alloc (.cells #[.slice sa ss.length sc, .int .i64 sl] 30)).alloc (.cells #[.int .i64 x0, .int .i64 x1, .int .i64 x2] 32) := ⟨_, rfl⟩
  have h3 := heap3w w (.cells #[.slice a M.levers.length cap, .int .i64 M.water, .int .i64 M.lkLo, .int .i64 M.lkHi, .slice a2 M.bals.length cap2, .int .i64 M.wrong] 27) (.cells #[.slice sa ss.length sc, .int .i64 sl] 30) (.cells #[.int .i64 x0, .int .i64 x1, .int .i64 x2] 32)
  rw [← hW] at h3 ⊢
  clear hW
  obtain ⟨e0, e1, e2, hb, hsz⟩ := h3
  have HB := Lib.hid hb
  have HM := Lib.hid (fun X (hX : Below W.heap.size W X) => HX.out X (hb.trans (hX.mono hb.size)))
  have HT := Lib.hid (fun X (hX : Below W.heap.size W X) => HS.out X (hb.trans (hX.mono hb.size)))
  have HC := Lib.hid (fun X (hX : Below W.heap.size W X) => (show _ ∧ _ ∧ _ from ⟨cells6 ((hX.block w.heap.size (by omega)).trans e0), cells2S ((hX.block (w.heap.size + 1) (by omega)).trans e1), cells3 ((hX.block (w.heap.size + 1 + 1) (by omega)).trans e2)⟩))
  have HWK := Lib.hid (fun X (hX : Below W.heap.size W X) => (works_any X).mono (fun e w' (h : e = .returned (.bool true) ∧ Below X.heap.size X w') => (show e = .returned (.bool true) ∧ Below w.heap.size w w' from ⟨h.1, (hb.trans (hX.mono hb.size)).trans (h.2.mono (Nat.le_trans hb.size hX.size))⟩)))
  clear e0 e1 e2 hb hsz
  refine (ready_any _ M W (HM.out W (Below.refl _ _))).mono ?_
  rintro e w1 ⟨⟨r, rfl, hr⟩, hb⟩
  have HB1 := Lib.hid hb
  obtain ⟨⟨c0, c1, c2, c3, c4, c5⟩, ⟨s0, s1⟩, f0, f1, f2⟩ := HC.out w1 hb
  clear hb
  cases r with
  | false =>
    go_wp2_with (go_at_call 14; refine (HWK.out w1 HB1.out).mono ?_; rintro e wz ⟨rfl, hbz⟩; have HBZ := Lib.hid hbz; clear hbz)
    go_ret
    exact ⟨rfl, HBZ.out⟩
  | true =>
    have HV := Lib.hid (validM_iff.1 (hr rfl))
    have HVB := Lib.hid (hr rfl)
    clear hr
    by_cases hl40 : (40 : Int) < (ss.length : Int)
    · go_wp2_with (go_at_call 14; refine (HWK.out w1 HB1.out).mono ?_; rintro e wz ⟨rfl, hbz⟩; have HBZ := Lib.hid hbz; clear hbz)
      go_ret
      exact ⟨rfl, HBZ.out⟩
    go_wp2_with fail
    refine (isAsk_any x0 x1 x2 w1).mono ?_
    rintro e w2 ⟨rfl, hb⟩
    have HB2 := Lib.hid (HB1.out.trans (hb.mono HB1.out.size))
    clear hb c0 c1 c2 c3 c4 c5 s0 s1 f0 f1 f2
    obtain ⟨⟨c0, c1, c2, c3, c4, c5⟩, ⟨s0, s1⟩, f0, f1, f2⟩ := HC.out w2 HB2.out
    cases h1 : ask3 x0 x1 x2 with
    | false =>
      go_wp2_with (go_at_call 14; refine (HWK.out w2 HB2.out).mono ?_; rintro e wz ⟨rfl, hbz⟩; have HBZ := Lib.hid hbz; clear hbz)
      go_ret
      exact ⟨rfl, HBZ.out⟩
    | true =>
      obtain ⟨hx0, hx1, hx2⟩ := ask3_iff.1 h1
      clear h1
      go_wp2_with fail
      refine (IsTruth_any _ M _ ss sl w2 (HM.out w2 HB2.out) HV.out (HT.out w2 HB2.out) HSL.out).mono ?_
      rintro e w3 ⟨⟨r, rfl, hr⟩, hb⟩
      have HB3 := Lib.hid (HB2.out.trans (hb.mono HB2.out.size))
      clear hb c0 c1 c2 c3 c4 c5 s0 s1 f0 f1 f2
      obtain ⟨⟨c0, c1, c2, c3, c4, c5⟩, ⟨s0, s1⟩, f0, f1, f2⟩ := HC.out w3 HB3.out
      cases r with
      | false =>
        go_wp2_with (go_at_call 14; refine (HWK.out w3 HB3.out).mono ?_; rintro e wz ⟨rfl, hbz⟩; have HBZ := Lib.hid hbz; clear hbz)
        go_ret
        exact ⟨rfl, HBZ.out⟩
      | true =>
        have hst := hr rfl
        have HST := Lib.hid hst
        have HIN := Lib.hid (inSet_of HV.out (mem_truths.1 hst).1)
        have hne : truthsM M ≠ [] := fun he => by rw [he] at hst; cases hst
        have HNE := Lib.hid hne
        clear hr hst hne
        go_upto_region 3 with fail
        clear c0 c1 c2 c3 c4 c5 s0 s1 f0 f1 f2
        go_wp2_with fail
        go_loopw [7] (fun vi wr => ∃ i : Nat, i ≤ ss.length ∧ vi = .int .i64 (i : Nat) ∧ Hid (Below w3.heap.size w3 wr)) (fun vi _ => ss.length - (intOf vi).toNat)
        case atStart => exact ⟨0, Nat.zero_le _, rfl, Lib.hid (Below.refl _ _)⟩
        case round =>
          obtain ⟨i, hi, rfl, hb0⟩ := hrel
          have HR := Lib.hid (HB3.out.trans (hb0.out.mono HB3.out.size))
          obtain ⟨⟨c0, c1, c2, c3, c4, c5⟩, ⟨s0, s1⟩, f0, f1, f2⟩ := HC.out wr HR.out
          by_cases hlt : i < ss.length
          · have hilev : i < M.levers.length := by have := HIN.out.1; omega
            have HSH := Lib.hid (Shorts_any _ M i wr (HM.out wr HR.out) HVB.out hilev)
            clear hilev
            go_wp2_with fail
            refine HSH.out.mono ?_
            rintro e w5 ⟨hA, hb⟩
            obtain ⟨lv, L, rfl, hmem, hints⟩ := arm_answer HV.out HST.out hlt hA
            have HR5 := Lib.hid (HR.out.trans (hb.mono HR.out.size))
            have HB5 := Lib.hid (hb0.out.trans (hb.mono hb0.out.size))
            have HIN5 := Lib.hid (rIn_to hmem hints)
            have HSS := Lib.hid (HT.out w5 HR5.out)
            obtain ⟨la, lc, lb, lo, rfl, _⟩ := id hints
            clear hA hb hmem hints c0 c1 c2 c3 c4 c5 s0 s1 f0 f1 f2
            obtain ⟨⟨c0, c1, c2, c3, c4, c5⟩, ⟨s0, s1⟩, f0, f1, f2⟩ := HC.out w5 HR5.out
            obtain ⟨sb, so, rfl, hsb, hcs⟩ := ints_cells HSS.out (by omega)
            have y3 := hcs i hlt
            clear hcs
            go_wp2_with (go_at_call 16; refine HIN5.out.mono ?_; rintro e w' ⟨rfl, rfl⟩)
            exact ⟨⟨i + 1, by omega, by go_num, HB5⟩, by simp [intOf]; omega⟩
          · have hif : ¬ ((i : Nat) : Int) < ((ss.length : Nat) : Int) := by omega
            clear hlt
            go_wp2_with fail
            clear c0 c1 c2 c3 c4 c5 s0 s1 f0 f1 f2
            refine (Leaks_any _ M wr (HM.out wr HR.out) HVB.out).mono ?_
            rintro e w6 ⟨hA, hb⟩
            obtain ⟨lv, L, rfl, hmem, hints⟩ := leak_answer HV.out HST.out hA
            have HX6 := Lib.hid (HR.out.trans (hb.mono HR.out.size))
            have HLK := Lib.hid hints
            have HLM := Lib.hid hmem
            obtain ⟨la, lc, lb, lo, rfl, _⟩ := id hints
            clear hA hb hmem hints
            obtain ⟨⟨c0, c1, c2, c3, c4, c5⟩, ⟨s0, s1⟩, f0, f1, f2⟩ := HC.out w6 HX6.out
            go_wp2_with fail
            clear c0 c1 c2 c3 c4 c5 s0 s1 f0 f1 f2
            have hld := Load_any _ M x0 x1 w6 (HM.out w6 HX6.out) HVB.out (askB_all hx0 hx1 (by decide))
            have hla : loadA M x0 x1 = ((loadLo M x0 x1, loadHi M x0 x1), 0) := by
              unfold loadA
              rw [if_neg (by rw [List.isEmpty_iff]; exact HNE.out)]
            have hsane := load_sane HV.out hx0 hx1.1 (m := x1) HNE.out
            have hlh := load_has (w := x0) (m := x1) HST.out
            obtain ⟨LO, hLO⟩ : ∃ LO, loadLo M x0 x1 = LO := ⟨_, rfl⟩
            obtain ⟨HI, hHI⟩ : ∃ HI, loadHi M x0 x1 = HI := ⟨_, rfl⟩
            rw [hla, hLO, hHI] at hld
            rw [hLO, hHI] at hsane hlh
            dsimp only at hld
            refine hld.mono ?_
            rintro e w7 ⟨rfl, hb⟩
            have HX7 := Lib.hid (HX6.out.trans (hb.mono HX6.out.size))
            have HLK := Lib.hid ((HLK.out.below hb).mono hb.size)
            clear hb hld hla hLO hHI
            have HSN := Lib.hid (show 0 ≤ LO ∧ LO ≤ HI ∧ HI < 1125899906842624 from by omega)
            have HLH := Lib.hid hlh
            clear hsane hlh
            have hn7 := heap_new w7 (.cells #[.int .i64 LO, .int .i64 HI] 24)
            have hb7 := (Below.refl w7.heap.size w7).alloc (Nat.le_refl _) (.cells #[.int .i64 LO, .int .i64 HI] 24)
            have hx8 := HX7.out.alloc HX7.out.size (.cells #[.int .i64 LO, .int .i64 HI] 24)
            obtain ⟨⟨c0, c1, c2, c3, c4, c5⟩, ⟨s0, s1⟩, f0, f1, f2⟩ := HC.out _ hx8
            have HN8 := Lib.hid hn7
            have HX8 := Lib.hid hx8
            have HLK := Lib.hid ((HLK.out.below hb7).mono hb7.size)
            clear hn7 hb7 hx8
            go_wp2_with fail
            obtain ⟨X8, hX8⟩ : ∃ X, w7.alloc (.cells #[.int .i64 LO, .int .i64 HI] 24) = X := ⟨_, rfl⟩
            obtain ⟨SB, hSB⟩ : ∃ SB, w7.heap.size = SB := ⟨_, rfl⟩
            rw [hX8] at HN8 HX8 HLK ⊢
            rw [hSB] at HN8 ⊢
            clear hX8 hSB c0 c1 c2 c3 c4 c5 s0 s1 f0 f1 f2
            have hpu := Pulled_any _ M x0 x1 x2 X8 (HM.out X8 HX8.out) HVB.out (askB_all hx0 hx1 hx2)
            have hpa : pulledA M x0 x1 x2 = (knownI (pulledN M x0 x1 x2) (truthsM M).length, 0) := by unfold pulledA; rw [if_neg HNE.out]
            have hph := pulled_has (w := x0) (m := x1) (load := x2) HST.out
            rw [hpa] at hpu
            dsimp only at hpu
            have HAG := Lib.hid (fun W => rAgrees_any (pulledN M x0 x1 x2) (truthsM M).length (pullsB M x0 x1 x2 sl (prodL ss)) W hph.1 hph.2.1 hph.2.2.1 hph.2.2.2)
            obtain ⟨KN, hKN⟩ : ∃ KN, knownI (pulledN M x0 x1 x2) (truthsM M).length = KN := ⟨_, rfl⟩
            rw [hKN] at hpu HAG
            refine hpu.mono ?_
            rintro e w9 ⟨rfl, hb⟩
            have HX9' := Lib.hid (HX8.out.trans (hb.mono HX8.out.size))
            have HLK := Lib.hid ((HLK.out.below hb).mono hb.size)
            have HN9 := Lib.hid ((hb.block SB (heap_lt HN8.out)).trans HN8.out)
            clear hb hpu hpa hph hKN HN8
            obtain ⟨⟨c0, c1, c2, c3, c4, c5⟩, ⟨s0, s1⟩, f0, f1, f2⟩ := HC.out w9 HX9'.out
            go_wp2_with fail
            clear c0 c1 c2 c3 c4 c5 s0 s1 f0 f1 f2
            refine (Strange_any _ M w9 (HM.out w9 HX9'.out) HVB.out).mono ?_
            rintro e wa ⟨⟨_, hq⟩, hb⟩
            obtain ⟨qv, rfl, hqi⟩ := hq HNE.out
            have HXA := Lib.hid (HX9'.out.trans (hb.mono HX9'.out.size))
            have HLK := Lib.hid ((HLK.out.below hb).mono hb.size)
            have HNA := Lib.hid ((hb.block SB (heap_lt HN9.out)).trans HN9.out)
            have hql := strTo_len M M.bals.length
            have hnb := HV.out.nb
            have HQN := Lib.hid (fun x (h : x ∈ strM M) => strange_not HST.out h)
            obtain ⟨QS, hQS⟩ : ∃ QS, strM M = QS := ⟨_, rfl⟩
            have hql : QS.length ≤ 6 := by rw [← hQS]; unfold strM; omega
            rw [hQS] at hqi HQN
            have HQI := Lib.hid hqi
            obtain ⟨qa, qc, qb0, qo0, rfl, _⟩ := id hqi
            clear hb hq hqi hQS HN9
            obtain ⟨⟨c0, c1, c2, c3, c4, c5⟩, ⟨s0, s1⟩, f0, f1, f2⟩ := HC.out wa HXA.out
            go_wp2_with fail
            clear c0 c1 c2 c3 c4 c5 s0 s1 f0 f1 f2
            have hfw := Fewest_any _ M wa (HM.out wa HXA.out) HVB.out
            have hfh := few_has HST.out
            obtain ⟨FN, hFN⟩ : ∃ FN, fewestM M = FN := ⟨_, rfl⟩
            rw [hFN] at hfw hfh
            refine hfw.mono ?_
            rintro e wb ⟨rfl, hb⟩
            have HXB := Lib.hid (HXA.out.trans (hb.mono HXA.out.size))
            have HLK := Lib.hid ((HLK.out.below hb).mono hb.size)
            have HNB := Lib.hid ((hb.block SB (heap_lt HNA.out)).trans HNA.out)
            have HQI := Lib.hid ((HQI.out.below hb).mono hb.size)
            clear hb hfw hFN HNA
            have HIN6 := Lib.hid (rIn_to HLM.out HLK.out)
            obtain ⟨⟨c0, c1, c2, c3, c4, c5⟩, ⟨s0, s1⟩, f0, f1, f2⟩ := HC.out wb HXB.out
            obtain ⟨k0, k1⟩ := cell2_of HNB.out
            go_upto_region 14 with fail
            go_wp2_with (go_at_call 16; refine HIN6.out.mono ?_; rintro e w' ⟨rfl, rfl⟩)
            clear c0 c1 c2 c3 c4 c5 s0 s1 f0 f1 f2 k0 k1
            refine (sane_any LO HI wb HSN.out).mono ?_
            rintro e wc ⟨rfl, hb⟩
            have HXC := Lib.hid (HXB.out.trans (hb.mono HXB.out.size))
            have HNC := Lib.hid ((hb.block SB (heap_lt HNB.out)).trans HNB.out)
            have HQI := Lib.hid ((HQI.out.below hb).mono hb.size)
            clear hb HNB HIN6 HLK HLM
            obtain ⟨⟨c0, c1, c2, c3, c4, c5⟩, ⟨s0, s1⟩, f0, f1, f2⟩ := HC.out wc HXC.out
            have hq40 : ¬ (40 : Int) < ((QS.length : Nat) : Int) := by omega
            go_wp2_with fail
            clear c0 c1 c2 c3 c4 c5 s0 s1 f0 f1 f2
            have hwr := Wrongs_any _ M _ ss sl wc (HM.out wc HXC.out) HV.out (HT.out wc HXC.out) HIN.out
            obtain ⟨WR, hWR⟩ : ∃ WR, wrongsP M sl (prodL ss) = WR := ⟨_, rfl⟩
            rw [hWR] at hwr hfh
            refine hwr.mono ?_
            rintro e wd ⟨rfl, hb⟩
            have HX9 := Lib.hid (HXC.out.trans (hb.mono HXC.out.size))
            have HND := Lib.hid ((hb.block SB (heap_lt HNC.out)).trans HNC.out)
            have HQD := Lib.hid (fun X (hX : Below wd.heap.size wd X) => (((HQI.out.below hb).mono hb.size).below hX).mono hX.size)
            have hgt : ¬ ((WR : Nat) : Int) < ((FN : Nat) : Int) := by omega
            clear hb hwr hWR hfh HNC
            go_upto_region 16 with fail
            clear hgt
            go_wp2_with fail
            go_loopw [20] (fun vi wr => ∃ j : Nat, j ≤ QS.length ∧ vi = .int .i64 (j : Nat) ∧ Hid (Below wd.heap.size wd wr)) (fun vi _ => QS.length - (intOf vi).toNat)
            case atStart => exact ⟨0, Nat.zero_le _, rfl, Lib.hid (Below.refl _ _)⟩
            case round =>
              obtain ⟨j, hj, rfl, hb0⟩ := hrel
              by_cases hlt : j < QS.length
              · obtain ⟨qb, qo, rfl, hqb, hcq⟩ := ints_cells (HQD.out wr hb0.out) (by omega)
                obtain ⟨BI, hBI, hBl, hBr⟩ := HQN.out (nth QS j) (nth_mem hlt)
                have hqj := hcq j hlt
                rw [hBI] at hqj
                have HQJ := Lib.hid hqj
                have HRI := Lib.hid (fun X (hX : Below wd.heap.size wd X) => (show Calls Try.prog 24 #[.agg #[.slice a M.levers.length cap, .int .i64 M.water, .int .i64 M.lkLo, .int .i64 M.lkHi, .slice a2 M.bals.length cap2, .int .i64 M.wrong], .agg #[.slice sa ss.length sc, .int .i64 sl], bV (bnth M.bals BI)] X fun e w' => e = .returned (.bool false) ∧ Below X.heap.size X w' from by
                  have := uIsRight_any _ M _ ss sl (bnth M.bals BI) X (HM.out X (HX9.out.trans (hX.mono HX9.out.size))) HV.out (HT.out X (HX9.out.trans (hX.mono HX9.out.size))) HIN.out (by rw [bnth_lt hBl]; exact List.getElem_mem hBl)
                  rwa [hBr] at this))
                have HMX := Lib.hid (fun X (hX : Below wd.heap.size wd X) => HM.out X (HX9.out.trans (hX.mono HX9.out.size)))
                obtain ⟨bb, off, rfl, hbb, _⟩ := bals_cells (HMX.out wr hb0.out) (by omega)
                have HB4 := Lib.hid (fun X (hX : Below wd.heap.size wd X) => (show Four X bb (off + BI * 4) (bnth M.bals BI).weight (bnth M.bals BI).minutes (bnth M.bals BI).load (bnth M.bals BI).off from by
                  obtain ⟨bb', off', e, _, hc⟩ := bals_cells (HMX.out X hX) (by omega)
                  injection e with e
                  injection e with e1 e2
                  subst e1 e2
                  exact hc BI hBl))
                have hb0n : ¬ ((BI : Nat) : Int) < 0 := by omega
                have hblI : ¬ ((M.bals.length : Nat) : Int) ≤ ((BI : Nat) : Int) := by omega
                clear hcq hqj hBI hBr
                go_upto_region 19 with fail
                refine wp_region_facts _ 28 [156, 157, 158, 159, 160, 161, 162, 163, 164, 165, 166, 167, 168, 169, 170, 171, 172, 173, 174, 175, 176, 177, 178, 179, 180, 181, 182, 183] [isV (.slice (some ⟨qb, qo, none⟩) QS.length qc), isV (.int .i64 (j : Nat)), isV (.pointer (some ⟨qb, qo + j, none⟩)), isV (.int .i64 (BI : Nat)), isV (.bool false), isV (.bool false), isV (.slice (some ⟨qb, qo, none⟩) QS.length qc), isV (.int .i64 (j : Nat)), isV (.pointer (some ⟨qb, qo + j, none⟩)), isV (.int .i64 (BI : Nat)), isV (.pointer (some ⟨w.heap.size, 4, none⟩)), isV (.slice (some ⟨bb, off, none⟩) M.bals.length cap2), isV (.int .i64 (M.bals.length : Nat)), isV (.bool false), isV (.bool false), isV (.bool false), isV (.agg #[.slice a M.levers.length cap, .int .i64 M.water, .int .i64 M.lkLo, .int .i64 M.lkHi, .slice (some ⟨bb, off, none⟩) M.bals.length cap2, .int .i64 M.wrong]), isV (.agg #[.slice sa ss.length sc, .int .i64 sl]), isV (.pointer (some ⟨w.heap.size, 4, none⟩)), isV (.slice (some ⟨bb, off, none⟩) M.bals.length cap2), isV (.slice (some ⟨qb, qo, none⟩) QS.length qc), isV (.int .i64 (j : Nat)), isV (.pointer (some ⟨qb, qo + j, none⟩)), isV (.int .i64 (BI : Nat)), isV (.pointer (some ⟨bb, off + BI * 4, none⟩)), isV (bV (bnth M.bals BI)), ⟨fun v W => v = .bool false, fun _ _ _ h _ => h⟩, isV (.bool false)] (by kernel_rfl) (by kernel_rfl) (by kernel_rfl) rfl (by decide) (by decide) (by simp) ?step ?rest
                case step =>
                  intro i ac W d hi hd hb hoff hdep
                  obtain ⟨⟨c0, c1, c2, c3, c4, c5⟩, ⟨s0, s1⟩, f0, f1, f2⟩ := HC.out W (HX9.out.trans ((hb0.out.trans (hb.mono hb0.out.size)).mono HX9.out.size))
                  have yq := (hb.cell (p := ⟨qb, qo + j, none⟩) hqb).trans HQJ.out
                  obtain ⟨y0, y1, y2, y3⟩ := HB4.out W (hb0.out.trans (hb.mono hb0.out.size))
                  have hi2 : i = 0 ∨ i = 1 ∨ i = 2 ∨ i = 3 ∨ i = 4 ∨ i = 5 ∨ i = 6 ∨ i = 7 ∨ i = 8 ∨ i = 9 ∨ i = 10 ∨ i = 11 ∨ i = 12 ∨ i = 13 ∨ i = 14 ∨ i = 15 ∨ i = 16 ∨ i = 17 ∨ i = 18 ∨ i = 19 ∨ i = 20 ∨ i = 21 ∨ i = 22 ∨ i = 23 ∨ i = 24 ∨ i = 25 ∨ i = 26 ∨ i = 27 := by omega
                  rcases hi2 with rfl | rfl | rfl | rfl | rfl | rfl | rfl | rfl | rfl | rfl | rfl | rfl | rfl | rfl | rfl | rfl | rfl | rfl | rfl | rfl | rfl | rfl | rfl | rfl | rfl | rfl | rfl | rfl
                  · obtain rfl : 156 = d := by simpa using hd
                    have q16 : ac.tmps[16]?.getD undef = .slice (some ⟨qb, qo, none⟩) QS.length qc := (eval_tmp _ _).symm.trans <| (hoff 16 (by decide)).trans rfl
                    refine fact_value rfl rfl rfl (v := .slice (some ⟨qb, qo, none⟩) QS.length qc) (W' := W) ?_ (Below.refl _ _) rfl
                    simp only [execOp]
                    go_simp
                  · obtain rfl : 157 = d := by simpa using hd
                    have q20 : ac.tmps[20]?.getD undef = .int .i64 (j : Nat) := (eval_tmp _ _).symm.trans <| (hoff 20 (by decide)).trans rfl
                    refine fact_value rfl rfl rfl (v := .int .i64 (j : Nat)) (W' := W) ?_ (Below.refl _ _) rfl
                    simp only [execOp]
                    go_simp
                  · obtain rfl : 158 = d := by simpa using hd
                    have q156 : ac.tmps[156]?.getD undef = .slice (some ⟨qb, qo, none⟩) QS.length qc := (eval_tmp _ _).symm.trans (hdep 0 156 rfl rfl)
                    have q157 : ac.tmps[157]?.getD undef = .int .i64 (j : Nat) := (eval_tmp _ _).symm.trans (hdep 1 157 rfl rfl)
                    refine fact_value rfl rfl rfl (v := .pointer (some ⟨qb, qo + j, none⟩)) (W' := W) ?_ (Below.refl _ _) rfl
                    simp only [execOp]
                    go_simp
                  · obtain rfl : 159 = d := by simpa using hd
                    have q158 : ac.tmps[158]?.getD undef = .pointer (some ⟨qb, qo + j, none⟩) := (eval_tmp _ _).symm.trans (hdep 2 158 rfl rfl)
                    refine fact_value rfl rfl rfl (v := .int .i64 (BI : Nat)) (W' := W) ?_ (Below.refl _ _) rfl
                    simp only [execOp]
                    go_simp
                  · obtain rfl : 160 = d := by simpa using hd
                    have q159 : ac.tmps[159]?.getD undef = .int .i64 (BI : Nat) := (eval_tmp _ _).symm.trans (hdep 3 159 rfl rfl)
                    refine fact_value rfl rfl rfl (v := .bool false) (W' := W) ?_ (Below.refl _ _) rfl
                    simp only [execOp]
                    go_simp
                  · obtain rfl : 161 = d := by simpa using hd
                    have q160 : ac.tmps[160]?.getD undef = .bool false := (eval_tmp _ _).symm.trans (hdep 4 160 rfl rfl)
                    refine fact_value rfl rfl rfl (v := .bool false) (W' := W) ?_ (Below.refl _ _) rfl
                    simp only [execOp]
                    go_simp
                  · obtain rfl : 162 = d := by simpa using hd
                    have q16 : ac.tmps[16]?.getD undef = .slice (some ⟨qb, qo, none⟩) QS.length qc := (eval_tmp _ _).symm.trans <| (hoff 16 (by decide)).trans rfl
                    have q161 : ac.tmps[161]?.getD undef = .bool false := (eval_tmp _ _).symm.trans (hdep 5 161 rfl rfl)
                    refine fact_value_on rfl (wants_on (t := 161) rfl rfl q161) rfl (v := .slice (some ⟨qb, qo, none⟩) QS.length qc) (W' := W) ?_ (Below.refl _ _) rfl
                    simp only [execOp]
                    go_simp
                  · obtain rfl : 163 = d := by simpa using hd
                    have q20 : ac.tmps[20]?.getD undef = .int .i64 (j : Nat) := (eval_tmp _ _).symm.trans <| (hoff 20 (by decide)).trans rfl
                    have q161 : ac.tmps[161]?.getD undef = .bool false := (eval_tmp _ _).symm.trans (hdep 5 161 rfl rfl)
                    refine fact_value_on rfl (wants_on (t := 161) rfl rfl q161) rfl (v := .int .i64 (j : Nat)) (W' := W) ?_ (Below.refl _ _) rfl
                    simp only [execOp]
                    go_simp
                  · obtain rfl : 164 = d := by simpa using hd
                    have q162 : ac.tmps[162]?.getD undef = .slice (some ⟨qb, qo, none⟩) QS.length qc := (eval_tmp _ _).symm.trans (hdep 6 162 rfl rfl)
                    have q163 : ac.tmps[163]?.getD undef = .int .i64 (j : Nat) := (eval_tmp _ _).symm.trans (hdep 7 163 rfl rfl)
                    have q161 : ac.tmps[161]?.getD undef = .bool false := (eval_tmp _ _).symm.trans (hdep 5 161 rfl rfl)
                    refine fact_value_on rfl (wants_on (t := 161) rfl rfl q161) rfl (v := .pointer (some ⟨qb, qo + j, none⟩)) (W' := W) ?_ (Below.refl _ _) rfl
                    simp only [execOp]
                    go_simp
                  · obtain rfl : 165 = d := by simpa using hd
                    have q164 : ac.tmps[164]?.getD undef = .pointer (some ⟨qb, qo + j, none⟩) := (eval_tmp _ _).symm.trans (hdep 8 164 rfl rfl)
                    have q161 : ac.tmps[161]?.getD undef = .bool false := (eval_tmp _ _).symm.trans (hdep 5 161 rfl rfl)
                    refine fact_value_on rfl (wants_on (t := 161) rfl rfl q161) rfl (v := .int .i64 (BI : Nat)) (W' := W) ?_ (Below.refl _ _) rfl
                    simp only [execOp]
                    go_simp
                  · obtain rfl : 166 = d := by simpa using hd
                    have q3 : ac.tmps[3]?.getD undef = .pointer (some ⟨w.heap.size, 0, none⟩) := (eval_tmp _ _).symm.trans <| (hoff 3 (by decide)).trans rfl
                    have q161 : ac.tmps[161]?.getD undef = .bool false := (eval_tmp _ _).symm.trans (hdep 5 161 rfl rfl)
                    refine fact_value_on rfl (wants_on (t := 161) rfl rfl q161) rfl (v := .pointer (some ⟨w.heap.size, 4, none⟩)) (W' := W) ?_ (Below.refl _ _) rfl
                    simp only [execOp]
                    go_simp
                  · obtain rfl : 167 = d := by simpa using hd
                    have q166 : ac.tmps[166]?.getD undef = .pointer (some ⟨w.heap.size, 4, none⟩) := (eval_tmp _ _).symm.trans (hdep 10 166 rfl rfl)
                    have q161 : ac.tmps[161]?.getD undef = .bool false := (eval_tmp _ _).symm.trans (hdep 5 161 rfl rfl)
                    refine fact_value_on rfl (wants_on (t := 161) rfl rfl q161) rfl (v := .slice (some ⟨bb, off, none⟩) M.bals.length cap2) (W' := W) ?_ (Below.refl _ _) rfl
                    simp only [execOp]
                    go_simp
                  · obtain rfl : 168 = d := by simpa using hd
                    have q167 : ac.tmps[167]?.getD undef = .slice (some ⟨bb, off, none⟩) M.bals.length cap2 := (eval_tmp _ _).symm.trans (hdep 11 167 rfl rfl)
                    have q161 : ac.tmps[161]?.getD undef = .bool false := (eval_tmp _ _).symm.trans (hdep 5 161 rfl rfl)
                    refine fact_value_on rfl (wants_on (t := 161) rfl rfl q161) rfl (v := .int .i64 (M.bals.length : Nat)) (W' := W) ?_ (Below.refl _ _) rfl
                    simp only [execOp]
                    go_simp
                  · obtain rfl : 169 = d := by simpa using hd
                    have q165 : ac.tmps[165]?.getD undef = .int .i64 (BI : Nat) := (eval_tmp _ _).symm.trans (hdep 9 165 rfl rfl)
                    have q168 : ac.tmps[168]?.getD undef = .int .i64 (M.bals.length : Nat) := (eval_tmp _ _).symm.trans (hdep 12 168 rfl rfl)
                    have q161 : ac.tmps[161]?.getD undef = .bool false := (eval_tmp _ _).symm.trans (hdep 5 161 rfl rfl)
                    refine fact_value_on rfl (wants_on (t := 161) rfl rfl q161) rfl (v := .bool false) (W' := W) ?_ (Below.refl _ _) rfl
                    simp only [execOp]
                    go_simp
                  · obtain rfl : 170 = d := by simpa using hd
                    have q161 : ac.tmps[161]?.getD undef = .bool false := (eval_tmp _ _).symm.trans (hdep 5 161 rfl rfl)
                    have q169 : ac.tmps[169]?.getD undef = .bool false := (eval_tmp _ _).symm.trans (hdep 13 169 rfl rfl)
                    refine fact_value rfl rfl rfl (v := .bool false) (W' := W) ?_ (Below.refl _ _) rfl
                    simp only [execOp]
                    go_simp
                  · obtain rfl : 171 = d := by simpa using hd
                    have q170 : ac.tmps[170]?.getD undef = .bool false := (eval_tmp _ _).symm.trans (hdep 14 170 rfl rfl)
                    refine fact_value rfl rfl rfl (v := .bool false) (W' := W) ?_ (Below.refl _ _) rfl
                    simp only [execOp]
                    go_simp
                  · obtain rfl : 172 = d := by simpa using hd
                    have q3 : ac.tmps[3]?.getD undef = .pointer (some ⟨w.heap.size, 0, none⟩) := (eval_tmp _ _).symm.trans <| (hoff 3 (by decide)).trans rfl
                    have q171 : ac.tmps[171]?.getD undef = .bool false := (eval_tmp _ _).symm.trans (hdep 15 171 rfl rfl)
                    refine fact_value_on rfl (wants_on (t := 171) rfl rfl q171) rfl (v := .agg #[.slice a M.levers.length cap, .int .i64 M.water, .int .i64 M.lkLo, .int .i64 M.lkHi, .slice (some ⟨bb, off, none⟩) M.bals.length cap2, .int .i64 M.wrong]) (W' := W) ?_ (Below.refl _ _) rfl
                    simp only [execOp]
                    go_simp
                  · obtain rfl : 173 = d := by simpa using hd
                    have q4 : ac.tmps[4]?.getD undef = .pointer (some ⟨w.heap.size + 1, 0, none⟩) := (eval_tmp _ _).symm.trans <| (hoff 4 (by decide)).trans rfl
                    have q171 : ac.tmps[171]?.getD undef = .bool false := (eval_tmp _ _).symm.trans (hdep 15 171 rfl rfl)
                    refine fact_value_on rfl (wants_on (t := 171) rfl rfl q171) rfl (v := .agg #[.slice sa ss.length sc, .int .i64 sl]) (W' := W) ?_ (Below.refl _ _) rfl
                    simp only [execOp]
                    go_simp
                  · obtain rfl : 174 = d := by simpa using hd
                    have q3 : ac.tmps[3]?.getD undef = .pointer (some ⟨w.heap.size, 0, none⟩) := (eval_tmp _ _).symm.trans <| (hoff 3 (by decide)).trans rfl
                    have q171 : ac.tmps[171]?.getD undef = .bool false := (eval_tmp _ _).symm.trans (hdep 15 171 rfl rfl)
                    refine fact_value_on rfl (wants_on (t := 171) rfl rfl q171) rfl (v := .pointer (some ⟨w.heap.size, 4, none⟩)) (W' := W) ?_ (Below.refl _ _) rfl
                    simp only [execOp]
                    go_simp
                  · obtain rfl : 175 = d := by simpa using hd
                    have q174 : ac.tmps[174]?.getD undef = .pointer (some ⟨w.heap.size, 4, none⟩) := (eval_tmp _ _).symm.trans (hdep 18 174 rfl rfl)
                    have q171 : ac.tmps[171]?.getD undef = .bool false := (eval_tmp _ _).symm.trans (hdep 15 171 rfl rfl)
                    refine fact_value_on rfl (wants_on (t := 171) rfl rfl q171) rfl (v := .slice (some ⟨bb, off, none⟩) M.bals.length cap2) (W' := W) ?_ (Below.refl _ _) rfl
                    simp only [execOp]
                    go_simp
                  · obtain rfl : 176 = d := by simpa using hd
                    have q16 : ac.tmps[16]?.getD undef = .slice (some ⟨qb, qo, none⟩) QS.length qc := (eval_tmp _ _).symm.trans <| (hoff 16 (by decide)).trans rfl
                    have q171 : ac.tmps[171]?.getD undef = .bool false := (eval_tmp _ _).symm.trans (hdep 15 171 rfl rfl)
                    refine fact_value_on rfl (wants_on (t := 171) rfl rfl q171) rfl (v := .slice (some ⟨qb, qo, none⟩) QS.length qc) (W' := W) ?_ (Below.refl _ _) rfl
                    simp only [execOp]
                    go_simp
                  · obtain rfl : 177 = d := by simpa using hd
                    have q20 : ac.tmps[20]?.getD undef = .int .i64 (j : Nat) := (eval_tmp _ _).symm.trans <| (hoff 20 (by decide)).trans rfl
                    have q171 : ac.tmps[171]?.getD undef = .bool false := (eval_tmp _ _).symm.trans (hdep 15 171 rfl rfl)
                    refine fact_value_on rfl (wants_on (t := 171) rfl rfl q171) rfl (v := .int .i64 (j : Nat)) (W' := W) ?_ (Below.refl _ _) rfl
                    simp only [execOp]
                    go_simp
                  · obtain rfl : 178 = d := by simpa using hd
                    have q176 : ac.tmps[176]?.getD undef = .slice (some ⟨qb, qo, none⟩) QS.length qc := (eval_tmp _ _).symm.trans (hdep 20 176 rfl rfl)
                    have q177 : ac.tmps[177]?.getD undef = .int .i64 (j : Nat) := (eval_tmp _ _).symm.trans (hdep 21 177 rfl rfl)
                    have q171 : ac.tmps[171]?.getD undef = .bool false := (eval_tmp _ _).symm.trans (hdep 15 171 rfl rfl)
                    refine fact_value_on rfl (wants_on (t := 171) rfl rfl q171) rfl (v := .pointer (some ⟨qb, qo + j, none⟩)) (W' := W) ?_ (Below.refl _ _) rfl
                    simp only [execOp]
                    go_simp
                  · obtain rfl : 179 = d := by simpa using hd
                    have q178 : ac.tmps[178]?.getD undef = .pointer (some ⟨qb, qo + j, none⟩) := (eval_tmp _ _).symm.trans (hdep 22 178 rfl rfl)
                    have q171 : ac.tmps[171]?.getD undef = .bool false := (eval_tmp _ _).symm.trans (hdep 15 171 rfl rfl)
                    refine fact_value_on rfl (wants_on (t := 171) rfl rfl q171) rfl (v := .int .i64 (BI : Nat)) (W' := W) ?_ (Below.refl _ _) rfl
                    simp only [execOp]
                    go_simp
                  · obtain rfl : 180 = d := by simpa using hd
                    have q175 : ac.tmps[175]?.getD undef = .slice (some ⟨bb, off, none⟩) M.bals.length cap2 := (eval_tmp _ _).symm.trans (hdep 19 175 rfl rfl)
                    have q179 : ac.tmps[179]?.getD undef = .int .i64 (BI : Nat) := (eval_tmp _ _).symm.trans (hdep 23 179 rfl rfl)
                    have q171 : ac.tmps[171]?.getD undef = .bool false := (eval_tmp _ _).symm.trans (hdep 15 171 rfl rfl)
                    refine fact_value_on rfl (wants_on (t := 171) rfl rfl q171) rfl (v := .pointer (some ⟨bb, off + BI * 4, none⟩)) (W' := W) ?_ (Below.refl _ _) rfl
                    simp only [execOp]
                    go_simp
                  · obtain rfl : 181 = d := by simpa using hd
                    have q180 : ac.tmps[180]?.getD undef = .pointer (some ⟨bb, off + BI * 4, none⟩) := (eval_tmp _ _).symm.trans (hdep 24 180 rfl rfl)
                    have q171 : ac.tmps[171]?.getD undef = .bool false := (eval_tmp _ _).symm.trans (hdep 15 171 rfl rfl)
                    refine fact_value_on rfl (wants_on (t := 171) rfl rfl q171) rfl (v := bV (bnth M.bals BI)) (W' := W) ?_ (Below.refl _ _) rfl
                    simp only [execOp]
                    go_simp
                  · obtain rfl : 182 = d := by simpa using hd
                    have q172 : ac.tmps[172]?.getD undef = .agg #[.slice a M.levers.length cap, .int .i64 M.water, .int .i64 M.lkLo, .int .i64 M.lkHi, .slice (some ⟨bb, off, none⟩) M.bals.length cap2, .int .i64 M.wrong] := (eval_tmp _ _).symm.trans (hdep 16 172 rfl rfl)
                    have q173 : ac.tmps[173]?.getD undef = .agg #[.slice sa ss.length sc, .int .i64 sl] := (eval_tmp _ _).symm.trans (hdep 17 173 rfl rfl)
                    have q181 : ac.tmps[181]?.getD undef = bV (bnth M.bals BI) := (eval_tmp _ _).symm.trans (hdep 25 181 rfl rfl)
                    have q171 : ac.tmps[171]?.getD undef = .bool false := (eval_tmp _ _).symm.trans (hdep 15 171 rfl rfl)
                    refine fact_call_on rfl (wants_on (t := 171) rfl rfl q171) rfl (f := 24) (args := #[.agg #[.slice a M.levers.length cap, .int .i64 M.water, .int .i64 M.lkLo, .int .i64 M.lkHi, .slice (some ⟨bb, off, none⟩) M.bals.length cap2, .int .i64 M.wrong], .agg #[.slice sa ss.length sc, .int .i64 sl], bV (bnth M.bals BI)]) ?_ ?_
                    · simp only [execOp]
                      go_simp
                    · refine (HRI.out W (hb0.out.trans (hb.mono hb0.out.size))).mono ?_
                      rintro e w' ⟨rfl, hb2⟩
                      exact ⟨_, rfl, hb2, rfl⟩
                  · obtain rfl : 183 = d := by simpa using hd
                    have q171 : ac.tmps[171]?.getD undef = .bool false := (eval_tmp _ _).symm.trans (hdep 15 171 rfl rfl)
                    have q182 : (ac.tmps[182]?.getD undef) = .bool false := eval_tmp ac _ ▸ hdep 26 182 rfl rfl
                    refine fact_value rfl rfl rfl (v := .bool false) (W' := W) ?_ (Below.refl _ _) rfl
                    simp only [execOp]
                    go_simp
                case rest =>
                  intro vs W hvl hb hval
                  obtain ⟨v0, v1, v2, v3, v4, v5, v6, v7, v8, v9, v10, v11, v12, v13, v14, v15, v16, v17, v18, v19, v20, v21, v22, v23, v24, v25, v26, v27, rfl⟩ : ∃ v0 v1 v2 v3 v4 v5 v6 v7 v8 v9 v10 v11 v12 v13 v14 v15 v16 v17 v18 v19 v20 v21 v22 v23 v24 v25 v26 v27, vs = [v0, v1, v2, v3, v4, v5, v6, v7, v8, v9, v10, v11, v12, v13, v14, v15, v16, v17, v18, v19, v20, v21, v22, v23, v24, v25, v26, v27] := by
                    match vs, hvl with
                    | [v0, v1, v2, v3, v4, v5, v6, v7, v8, v9, v10, v11, v12, v13, v14, v15, v16, v17, v18, v19, v20, v21, v22, v23, v24, v25, v26, v27], _ => exact ⟨v0, v1, v2, v3, v4, v5, v6, v7, v8, v9, v10, v11, v12, v13, v14, v15, v16, v17, v18, v19, v20, v21, v22, v23, v24, v25, v26, v27, rfl⟩
                  obtain rfl : v0 = .slice (some ⟨qb, qo, none⟩) QS.length qc := by obtain ⟨u, e, h⟩ := hval 0 (by omega); have e2 : some v0 = some u := e; injection e2 with e2; subst e2; exact h
                  obtain rfl : v1 = .int .i64 (j : Nat) := by obtain ⟨u, e, h⟩ := hval 1 (by omega); have e2 : some v1 = some u := e; injection e2 with e2; subst e2; exact h
                  obtain rfl : v2 = .pointer (some ⟨qb, qo + j, none⟩) := by obtain ⟨u, e, h⟩ := hval 2 (by omega); have e2 : some v2 = some u := e; injection e2 with e2; subst e2; exact h
                  obtain rfl : v3 = .int .i64 (BI : Nat) := by obtain ⟨u, e, h⟩ := hval 3 (by omega); have e2 : some v3 = some u := e; injection e2 with e2; subst e2; exact h
                  obtain rfl : v4 = .bool false := by obtain ⟨u, e, h⟩ := hval 4 (by omega); have e2 : some v4 = some u := e; injection e2 with e2; subst e2; exact h
                  obtain rfl : v5 = .bool false := by obtain ⟨u, e, h⟩ := hval 5 (by omega); have e2 : some v5 = some u := e; injection e2 with e2; subst e2; exact h
                  obtain rfl : v6 = .slice (some ⟨qb, qo, none⟩) QS.length qc := by obtain ⟨u, e, h⟩ := hval 6 (by omega); have e2 : some v6 = some u := e; injection e2 with e2; subst e2; exact h
                  obtain rfl : v7 = .int .i64 (j : Nat) := by obtain ⟨u, e, h⟩ := hval 7 (by omega); have e2 : some v7 = some u := e; injection e2 with e2; subst e2; exact h
                  obtain rfl : v8 = .pointer (some ⟨qb, qo + j, none⟩) := by obtain ⟨u, e, h⟩ := hval 8 (by omega); have e2 : some v8 = some u := e; injection e2 with e2; subst e2; exact h
                  obtain rfl : v9 = .int .i64 (BI : Nat) := by obtain ⟨u, e, h⟩ := hval 9 (by omega); have e2 : some v9 = some u := e; injection e2 with e2; subst e2; exact h
                  obtain rfl : v10 = .pointer (some ⟨w.heap.size, 4, none⟩) := by obtain ⟨u, e, h⟩ := hval 10 (by omega); have e2 : some v10 = some u := e; injection e2 with e2; subst e2; exact h
                  obtain rfl : v11 = .slice (some ⟨bb, off, none⟩) M.bals.length cap2 := by obtain ⟨u, e, h⟩ := hval 11 (by omega); have e2 : some v11 = some u := e; injection e2 with e2; subst e2; exact h
                  obtain rfl : v12 = .int .i64 (M.bals.length : Nat) := by obtain ⟨u, e, h⟩ := hval 12 (by omega); have e2 : some v12 = some u := e; injection e2 with e2; subst e2; exact h
                  obtain rfl : v13 = .bool false := by obtain ⟨u, e, h⟩ := hval 13 (by omega); have e2 : some v13 = some u := e; injection e2 with e2; subst e2; exact h
                  obtain rfl : v14 = .bool false := by obtain ⟨u, e, h⟩ := hval 14 (by omega); have e2 : some v14 = some u := e; injection e2 with e2; subst e2; exact h
                  obtain rfl : v15 = .bool false := by obtain ⟨u, e, h⟩ := hval 15 (by omega); have e2 : some v15 = some u := e; injection e2 with e2; subst e2; exact h
                  obtain rfl : v16 = .agg #[.slice a M.levers.length cap, .int .i64 M.water, .int .i64 M.lkLo, .int .i64 M.lkHi, .slice (some ⟨bb, off, none⟩) M.bals.length cap2, .int .i64 M.wrong] := by obtain ⟨u, e, h⟩ := hval 16 (by omega); have e2 : some v16 = some u := e; injection e2 with e2; subst e2; exact h
                  obtain rfl : v17 = .agg #[.slice sa ss.length sc, .int .i64 sl] := by obtain ⟨u, e, h⟩ := hval 17 (by omega); have e2 : some v17 = some u := e; injection e2 with e2; subst e2; exact h
                  obtain rfl : v18 = .pointer (some ⟨w.heap.size, 4, none⟩) := by obtain ⟨u, e, h⟩ := hval 18 (by omega); have e2 : some v18 = some u := e; injection e2 with e2; subst e2; exact h
                  obtain rfl : v19 = .slice (some ⟨bb, off, none⟩) M.bals.length cap2 := by obtain ⟨u, e, h⟩ := hval 19 (by omega); have e2 : some v19 = some u := e; injection e2 with e2; subst e2; exact h
                  obtain rfl : v20 = .slice (some ⟨qb, qo, none⟩) QS.length qc := by obtain ⟨u, e, h⟩ := hval 20 (by omega); have e2 : some v20 = some u := e; injection e2 with e2; subst e2; exact h
                  obtain rfl : v21 = .int .i64 (j : Nat) := by obtain ⟨u, e, h⟩ := hval 21 (by omega); have e2 : some v21 = some u := e; injection e2 with e2; subst e2; exact h
                  obtain rfl : v22 = .pointer (some ⟨qb, qo + j, none⟩) := by obtain ⟨u, e, h⟩ := hval 22 (by omega); have e2 : some v22 = some u := e; injection e2 with e2; subst e2; exact h
                  obtain rfl : v23 = .int .i64 (BI : Nat) := by obtain ⟨u, e, h⟩ := hval 23 (by omega); have e2 : some v23 = some u := e; injection e2 with e2; subst e2; exact h
                  obtain rfl : v24 = .pointer (some ⟨bb, off + BI * 4, none⟩) := by obtain ⟨u, e, h⟩ := hval 24 (by omega); have e2 : some v24 = some u := e; injection e2 with e2; subst e2; exact h
                  obtain rfl : v25 = bV (bnth M.bals BI) := by obtain ⟨u, e, h⟩ := hval 25 (by omega); have e2 : some v25 = some u := e; injection e2 with e2; subst e2; exact h
                  have k26 : v26 = .bool false := by obtain ⟨u, e, h⟩ := hval 26 (by omega); have e2 : some v26 = some u := e; injection e2 with e2; subst e2; exact h
                  obtain rfl : v27 = .bool false := by obtain ⟨u, e, h⟩ := hval 27 (by omega); have e2 : some v27 = some u := e; injection e2 with e2; subst e2; exact h
                  clear hval hvl
                  simp only [putL, Act.put, List.drop, List.setIfInBounds_toArray, List.set_cons_zero, List.set_cons_succ]
                  have HBW := Lib.hid (hb0.out.trans (hb.mono hb0.out.size))
                  clear hb k26
                  go_wp2
                  exact ⟨⟨j + 1, by omega, by go_num, HBW⟩, by simp [intOf]; omega⟩
              · have hif : ¬ ((j : Nat) : Int) < ((QS.length : Nat) : Int) := by omega
                have HXE := Lib.hid (HX9.out.trans (hb0.out.mono HX9.out.size))
                have HNE2 := Lib.hid ((hb0.out.block SB (heap_lt HND.out)).trans HND.out)
                clear hlt HQD HQN
                obtain ⟨⟨c0, c1, c2, c3, c4, c5⟩, ⟨s0, s1⟩, f0, f1, f2⟩ := HC.out wr HXE.out
                go_wp2_with fail
                clear c0 c1 c2 c3 c4 c5 s0 s1 f0 f1 f2
                have hlo := LoadOf_any _ M _ ss sl x0 x1 wr (HM.out wr HXE.out) HV.out (HT.out wr HXE.out) HIN.out hx0 hx1
                have hpv := prod_three HV.out HIN.out ss.length (Nat.le_refl _)
                rw [List.take_length] at hpv
                have hfv := force_ok HV.out (minutes := x1) (leak := sl) hx0 hx1.1 HIN.out.2.2.1
                have HIP0 := Lib.hid (fun X (hX : Below W.heap.size W X) => IsPulled_any _ M _ ss sl x0 x1 x2 X (HM.out X hX) HV.out (HT.out X hX) HIN.out hx0 hx1 hx2)
                have hlh := HLH.out
                obtain ⟨FV, hFV⟩ : ∃ FV, force M x0 x1 sl = FV := ⟨_, rfl⟩
                obtain ⟨PV, hPV⟩ : ∃ PV, prodL ss = PV := ⟨_, rfl⟩
                rw [hFV, hPV] at hlo hlh
                rw [hPV] at hpv HIP0 HAG
                rw [hFV] at hfv
                refine hlo.mono ?_
                rintro e wy ⟨rfl, hb⟩
                have HXY := Lib.hid (HXE.out.trans (hb.mono HXE.out.size))
                have HNY := Lib.hid ((hb.block SB (heap_lt HNE2.out)).trans HNE2.out)
                obtain ⟨pq, hpq⟩ : ∃ pq, pullsB M x0 x1 x2 sl PV = pq := ⟨_, rfl⟩
                rw [hpq] at HIP0 HAG
                have HIP := Lib.hid (fun X (hX : Below wy.heap.size wy X) => HIP0.out X (HXY.out.trans (hX.mono HXY.out.size)))
                have HCY := Lib.hid (fun X (hX : Below wy.heap.size wy X) => HC.out X (HXY.out.trans (hX.mono HXY.out.size)))
                have HSL := Lib.hid (cell2_of HNY.out)
                have hsbl := heap_lt HNY.out
                have hp0 : ¬ PV = 0 := by omega
                have hq1 : FV.tdiv PV = FV / PV := Int.tdiv_eq_ediv_of_nonneg hfv.1
                have hq2 : (FV + PV - 1).tdiv PV = upD FV PV := Int.tdiv_eq_ediv_of_nonneg (by omega)
                have hq3 : 0 ≤ FV / PV := Int.ediv_nonneg hfv.1 (by omega)
                have hq4 : FV / PV ≤ FV := Int.ediv_le_self _ hfv.1
                have hsn := HSN.out
                obtain ⟨QQ, hQQ⟩ : ∃ QQ, FV / PV = QQ := ⟨_, rfl⟩
                obtain ⟨UU, hUU⟩ : ∃ UU, upD FV PV = UU := ⟨_, rfl⟩
                have hu0 : 0 ≤ UU := by rw [← hUU]; exact Int.ediv_nonneg (by omega) (by omega)
                rw [hQQ] at hq1 hq3 hq4 hlh
                rw [hUU] at hq2 hlh
                have hle1 := hlh.1
                have hle2 := hlh.2
                have hwq : IntKind.i64.wrap QQ = QQ := IntWalk.i64_in _ (by omega)
                have hwu : IntKind.i64.wrap UU = UU := IntWalk.i64_in _ (by omega)
                have hws : IntKind.i64.wrap (FV + PV) = FV + PV := IntWalk.i64_in _ (by omega)
                have hws2 : IntKind.i64.wrap (FV + PV - 1) = FV + PV - 1 := IntWalk.i64_in _ (by omega)
                have hws' : wrap64 (FV + PV) = FV + PV := wrap_in (by omega)
                have hws2' : wrap64 (FV + PV - 1) = FV + PV - 1 := wrap_in (by omega)
                clear hb hlo hlh hFV hPV hpq hQQ hUU HIP0 HNE2
                go_upto_region 22 with fail
                refine wp_region_facts _ 33 [194, 195, 196, 197, 198, 199, 200, 201, 202, 203, 204, 205, 206, 207, 208, 209, 210, 211, 212, 213, 214, 215, 216, 217, 218, 219, 220, 221, 222, 223, 224, 225, 226] [isV (.pointer (some ⟨SB, 0, none⟩)), isV (.int .i64 LO), isV (.int .i64 FV), isV (.int .i64 PV), isV (.int .i64 QQ), isV (.bool true), isV (.bool true), isV (.pointer (some ⟨SB, 1, none⟩)), isV (.int .i64 HI), isV (.int .i64 FV), isV (.int .i64 PV), isV (.int .i64 (FV + PV)), isV (.int .i64 (FV + PV - 1)), isV (.int .i64 PV), isV (.int .i64 UU), isV (.bool true), isV (.bool true), isV (.bool true), isV (.int .i64 KN), isV (.agg #[.slice a M.levers.length cap, .int .i64 M.water, .int .i64 M.lkLo, .int .i64 M.lkHi, .slice a2 M.bals.length cap2, .int .i64 M.wrong]), isV (.agg #[.slice sa ss.length sc, .int .i64 sl]), isV (.pointer (some ⟨w.heap.size + 1 + 1, 0, none⟩)), isV (.int .i64 x0), isV (.pointer (some ⟨w.heap.size + 1 + 1, 1, none⟩)), isV (.int .i64 x1), isV (.pointer (some ⟨w.heap.size + 1 + 1, 2, none⟩)), isV (.int .i64 x2), ⟨fun v W => v = .bool pq, fun _ _ _ h _ => h⟩, ⟨fun v W => v = .bool true, fun _ _ _ h _ => h⟩, isV (.bool true), isV (.bool true), ⟨fun v W => v = .bool true, fun _ _ _ h _ => h⟩, isV (.bool true)] (by kernel_rfl) (by kernel_rfl) (by kernel_rfl) rfl (by decide) (by decide) (by simp) ?step ?rest
                case step =>
                  intro i ac W d hi hd hb hoff hdep
                  obtain ⟨⟨c0, c1, c2, c3, c4, c5⟩, ⟨s0, s1⟩, f0, f1, f2⟩ := HCY.out W hb
                  have l0 := (hb.cell (p := ⟨SB, 0, none⟩) hsbl).trans HSL.out.1
                  have l1 := (hb.cell (p := ⟨SB, 1, none⟩) hsbl).trans HSL.out.2
                  have hi2 : i = 0 ∨ i = 1 ∨ i = 2 ∨ i = 3 ∨ i = 4 ∨ i = 5 ∨ i = 6 ∨ i = 7 ∨ i = 8 ∨ i = 9 ∨ i = 10 ∨ i = 11 ∨ i = 12 ∨ i = 13 ∨ i = 14 ∨ i = 15 ∨ i = 16 ∨ i = 17 ∨ i = 18 ∨ i = 19 ∨ i = 20 ∨ i = 21 ∨ i = 22 ∨ i = 23 ∨ i = 24 ∨ i = 25 ∨ i = 26 ∨ i = 27 ∨ i = 28 ∨ i = 29 ∨ i = 30 ∨ i = 31 ∨ i = 32 := by omega
                  rcases hi2 with rfl | rfl | rfl | rfl | rfl | rfl | rfl | rfl | rfl | rfl | rfl | rfl | rfl | rfl | rfl | rfl | rfl | rfl | rfl | rfl | rfl | rfl | rfl | rfl | rfl | rfl | rfl | rfl | rfl | rfl | rfl | rfl | rfl
                  · obtain rfl : 194 = d := by simpa using hd
                    have q12 : ac.tmps[12]?.getD undef = .pointer (some ⟨SB, 0, none⟩) := (eval_tmp _ _).symm.trans <| (hoff 12 (by decide)).trans rfl
                    refine fact_value rfl rfl rfl (v := .pointer (some ⟨SB, 0, none⟩)) (W' := W) ?_ (Below.refl _ _) rfl
                    simp only [execOp]
                    go_simp
                  · obtain rfl : 195 = d := by simpa using hd
                    have q194 : ac.tmps[194]?.getD undef = .pointer (some ⟨SB, 0, none⟩) := (eval_tmp _ _).symm.trans (hdep 0 194 rfl rfl)
                    refine fact_value rfl rfl rfl (v := .int .i64 LO) (W' := W) ?_ (Below.refl _ _) rfl
                    simp only [execOp]
                    go_simp
                  · obtain rfl : 196 = d := by simpa using hd
                    have q21 : ac.tmps[21]?.getD undef = .int .i64 FV := (eval_tmp _ _).symm.trans <| (hoff 21 (by decide)).trans rfl
                    refine fact_value rfl rfl rfl (v := .int .i64 FV) (W' := W) ?_ (Below.refl _ _) rfl
                    simp only [execOp]
                    go_simp
                  · obtain rfl : 197 = d := by simpa using hd
                    have q22 : ac.tmps[22]?.getD undef = .int .i64 PV := (eval_tmp _ _).symm.trans <| (hoff 22 (by decide)).trans rfl
                    refine fact_value rfl rfl rfl (v := .int .i64 PV) (W' := W) ?_ (Below.refl _ _) rfl
                    simp only [execOp]
                    go_simp
                  · obtain rfl : 198 = d := by simpa using hd
                    have q196 : ac.tmps[196]?.getD undef = .int .i64 FV := (eval_tmp _ _).symm.trans (hdep 2 196 rfl rfl)
                    have q197 : ac.tmps[197]?.getD undef = .int .i64 PV := (eval_tmp _ _).symm.trans (hdep 3 197 rfl rfl)
                    refine fact_value rfl rfl rfl (v := .int .i64 QQ) (W' := W) ?_ (Below.refl _ _) rfl
                    simp only [execOp]
                    go_simp
                  · obtain rfl : 199 = d := by simpa using hd
                    have q195 : ac.tmps[195]?.getD undef = .int .i64 LO := (eval_tmp _ _).symm.trans (hdep 1 195 rfl rfl)
                    have q198 : ac.tmps[198]?.getD undef = .int .i64 QQ := (eval_tmp _ _).symm.trans (hdep 4 198 rfl rfl)
                    refine fact_value rfl rfl rfl (v := .bool true) (W' := W) ?_ (Below.refl _ _) rfl
                    simp only [execOp]
                    go_simp
                  · obtain rfl : 200 = d := by simpa using hd
                    have q199 : ac.tmps[199]?.getD undef = .bool true := (eval_tmp _ _).symm.trans (hdep 5 199 rfl rfl)
                    refine fact_value rfl rfl rfl (v := .bool true) (W' := W) ?_ (Below.refl _ _) rfl
                    simp only [execOp]
                    go_simp
                  · obtain rfl : 201 = d := by simpa using hd
                    have q12 : ac.tmps[12]?.getD undef = .pointer (some ⟨SB, 0, none⟩) := (eval_tmp _ _).symm.trans <| (hoff 12 (by decide)).trans rfl
                    have q200 : ac.tmps[200]?.getD undef = .bool true := (eval_tmp _ _).symm.trans (hdep 6 200 rfl rfl)
                    refine fact_value_on rfl (wants_on (t := 200) rfl rfl q200) rfl (v := .pointer (some ⟨SB, 1, none⟩)) (W' := W) ?_ (Below.refl _ _) rfl
                    simp only [execOp]
                    go_simp
                  · obtain rfl : 202 = d := by simpa using hd
                    have q201 : ac.tmps[201]?.getD undef = .pointer (some ⟨SB, 1, none⟩) := (eval_tmp _ _).symm.trans (hdep 7 201 rfl rfl)
                    have q200 : ac.tmps[200]?.getD undef = .bool true := (eval_tmp _ _).symm.trans (hdep 6 200 rfl rfl)
                    refine fact_value_on rfl (wants_on (t := 200) rfl rfl q200) rfl (v := .int .i64 HI) (W' := W) ?_ (Below.refl _ _) rfl
                    simp only [execOp]
                    go_simp
                  · obtain rfl : 203 = d := by simpa using hd
                    have q21 : ac.tmps[21]?.getD undef = .int .i64 FV := (eval_tmp _ _).symm.trans <| (hoff 21 (by decide)).trans rfl
                    have q200 : ac.tmps[200]?.getD undef = .bool true := (eval_tmp _ _).symm.trans (hdep 6 200 rfl rfl)
                    refine fact_value_on rfl (wants_on (t := 200) rfl rfl q200) rfl (v := .int .i64 FV) (W' := W) ?_ (Below.refl _ _) rfl
                    simp only [execOp]
                    go_simp
                  · obtain rfl : 204 = d := by simpa using hd
                    have q22 : ac.tmps[22]?.getD undef = .int .i64 PV := (eval_tmp _ _).symm.trans <| (hoff 22 (by decide)).trans rfl
                    have q200 : ac.tmps[200]?.getD undef = .bool true := (eval_tmp _ _).symm.trans (hdep 6 200 rfl rfl)
                    refine fact_value_on rfl (wants_on (t := 200) rfl rfl q200) rfl (v := .int .i64 PV) (W' := W) ?_ (Below.refl _ _) rfl
                    simp only [execOp]
                    go_simp
                  · obtain rfl : 205 = d := by simpa using hd
                    have q203 : ac.tmps[203]?.getD undef = .int .i64 FV := (eval_tmp _ _).symm.trans (hdep 9 203 rfl rfl)
                    have q204 : ac.tmps[204]?.getD undef = .int .i64 PV := (eval_tmp _ _).symm.trans (hdep 10 204 rfl rfl)
                    have q200 : ac.tmps[200]?.getD undef = .bool true := (eval_tmp _ _).symm.trans (hdep 6 200 rfl rfl)
                    refine fact_value_on rfl (wants_on (t := 200) rfl rfl q200) rfl (v := .int .i64 (FV + PV)) (W' := W) ?_ (Below.refl _ _) rfl
                    simp only [execOp]
                    go_simp
                  · obtain rfl : 206 = d := by simpa using hd
                    have q205 : ac.tmps[205]?.getD undef = .int .i64 (FV + PV) := (eval_tmp _ _).symm.trans (hdep 11 205 rfl rfl)
                    have q200 : ac.tmps[200]?.getD undef = .bool true := (eval_tmp _ _).symm.trans (hdep 6 200 rfl rfl)
                    refine fact_value_on rfl (wants_on (t := 200) rfl rfl q200) rfl (v := .int .i64 (FV + PV - 1)) (W' := W) ?_ (Below.refl _ _) rfl
                    simp only [execOp]
                    go_simp
                  · obtain rfl : 207 = d := by simpa using hd
                    have q22 : ac.tmps[22]?.getD undef = .int .i64 PV := (eval_tmp _ _).symm.trans <| (hoff 22 (by decide)).trans rfl
                    have q200 : ac.tmps[200]?.getD undef = .bool true := (eval_tmp _ _).symm.trans (hdep 6 200 rfl rfl)
                    refine fact_value_on rfl (wants_on (t := 200) rfl rfl q200) rfl (v := .int .i64 PV) (W' := W) ?_ (Below.refl _ _) rfl
                    simp only [execOp]
                    go_simp
                  · obtain rfl : 208 = d := by simpa using hd
                    have q206 : ac.tmps[206]?.getD undef = .int .i64 (FV + PV - 1) := (eval_tmp _ _).symm.trans (hdep 12 206 rfl rfl)
                    have q207 : ac.tmps[207]?.getD undef = .int .i64 PV := (eval_tmp _ _).symm.trans (hdep 13 207 rfl rfl)
                    have q200 : ac.tmps[200]?.getD undef = .bool true := (eval_tmp _ _).symm.trans (hdep 6 200 rfl rfl)
                    refine fact_value_on rfl (wants_on (t := 200) rfl rfl q200) rfl (v := .int .i64 UU) (W' := W) ?_ (Below.refl _ _) rfl
                    simp only [execOp]
                    go_simp
                  · obtain rfl : 209 = d := by simpa using hd
                    have q202 : ac.tmps[202]?.getD undef = .int .i64 HI := (eval_tmp _ _).symm.trans (hdep 8 202 rfl rfl)
                    have q208 : ac.tmps[208]?.getD undef = .int .i64 UU := (eval_tmp _ _).symm.trans (hdep 14 208 rfl rfl)
                    have q200 : ac.tmps[200]?.getD undef = .bool true := (eval_tmp _ _).symm.trans (hdep 6 200 rfl rfl)
                    refine fact_value_on rfl (wants_on (t := 200) rfl rfl q200) rfl (v := .bool true) (W' := W) ?_ (Below.refl _ _) rfl
                    simp only [execOp]
                    go_simp
                  · obtain rfl : 210 = d := by simpa using hd
                    have q200 : ac.tmps[200]?.getD undef = .bool true := (eval_tmp _ _).symm.trans (hdep 6 200 rfl rfl)
                    have q209 : ac.tmps[209]?.getD undef = .bool true := (eval_tmp _ _).symm.trans (hdep 15 209 rfl rfl)
                    refine fact_value rfl rfl rfl (v := .bool true) (W' := W) ?_ (Below.refl _ _) rfl
                    simp only [execOp]
                    go_simp
                  · obtain rfl : 211 = d := by simpa using hd
                    have q210 : ac.tmps[210]?.getD undef = .bool true := (eval_tmp _ _).symm.trans (hdep 16 210 rfl rfl)
                    refine fact_value rfl rfl rfl (v := .bool true) (W' := W) ?_ (Below.refl _ _) rfl
                    simp only [execOp]
                    go_simp
                  · obtain rfl : 212 = d := by simpa using hd
                    have q14 : ac.tmps[14]?.getD undef = .int .i64 KN := (eval_tmp _ _).symm.trans <| (hoff 14 (by decide)).trans rfl
                    have q211 : ac.tmps[211]?.getD undef = .bool true := (eval_tmp _ _).symm.trans (hdep 17 211 rfl rfl)
                    refine fact_value_on rfl (wants_on (t := 211) rfl rfl q211) rfl (v := .int .i64 KN) (W' := W) ?_ (Below.refl _ _) rfl
                    simp only [execOp]
                    go_simp
                  · obtain rfl : 213 = d := by simpa using hd
                    have q3 : ac.tmps[3]?.getD undef = .pointer (some ⟨w.heap.size, 0, none⟩) := (eval_tmp _ _).symm.trans <| (hoff 3 (by decide)).trans rfl
                    have q211 : ac.tmps[211]?.getD undef = .bool true := (eval_tmp _ _).symm.trans (hdep 17 211 rfl rfl)
                    refine fact_value_on rfl (wants_on (t := 211) rfl rfl q211) rfl (v := .agg #[.slice a M.levers.length cap, .int .i64 M.water, .int .i64 M.lkLo, .int .i64 M.lkHi, .slice a2 M.bals.length cap2, .int .i64 M.wrong]) (W' := W) ?_ (Below.refl _ _) rfl
                    simp only [execOp]
                    go_simp
                  · obtain rfl : 214 = d := by simpa using hd
                    have q4 : ac.tmps[4]?.getD undef = .pointer (some ⟨w.heap.size + 1, 0, none⟩) := (eval_tmp _ _).symm.trans <| (hoff 4 (by decide)).trans rfl
                    have q211 : ac.tmps[211]?.getD undef = .bool true := (eval_tmp _ _).symm.trans (hdep 17 211 rfl rfl)
                    refine fact_value_on rfl (wants_on (t := 211) rfl rfl q211) rfl (v := .agg #[.slice sa ss.length sc, .int .i64 sl]) (W' := W) ?_ (Below.refl _ _) rfl
                    simp only [execOp]
                    go_simp
                  · obtain rfl : 215 = d := by simpa using hd
                    have q5 : ac.tmps[5]?.getD undef = .pointer (some ⟨w.heap.size + 1 + 1, 0, none⟩) := (eval_tmp _ _).symm.trans <| (hoff 5 (by decide)).trans rfl
                    have q211 : ac.tmps[211]?.getD undef = .bool true := (eval_tmp _ _).symm.trans (hdep 17 211 rfl rfl)
                    refine fact_value_on rfl (wants_on (t := 211) rfl rfl q211) rfl (v := .pointer (some ⟨w.heap.size + 1 + 1, 0, none⟩)) (W' := W) ?_ (Below.refl _ _) rfl
                    simp only [execOp]
                    go_simp
                  · obtain rfl : 216 = d := by simpa using hd
                    have q215 : ac.tmps[215]?.getD undef = .pointer (some ⟨w.heap.size + 1 + 1, 0, none⟩) := (eval_tmp _ _).symm.trans (hdep 21 215 rfl rfl)
                    have q211 : ac.tmps[211]?.getD undef = .bool true := (eval_tmp _ _).symm.trans (hdep 17 211 rfl rfl)
                    refine fact_value_on rfl (wants_on (t := 211) rfl rfl q211) rfl (v := .int .i64 x0) (W' := W) ?_ (Below.refl _ _) rfl
                    simp only [execOp]
                    go_simp
                  · obtain rfl : 217 = d := by simpa using hd
                    have q5 : ac.tmps[5]?.getD undef = .pointer (some ⟨w.heap.size + 1 + 1, 0, none⟩) := (eval_tmp _ _).symm.trans <| (hoff 5 (by decide)).trans rfl
                    have q211 : ac.tmps[211]?.getD undef = .bool true := (eval_tmp _ _).symm.trans (hdep 17 211 rfl rfl)
                    refine fact_value_on rfl (wants_on (t := 211) rfl rfl q211) rfl (v := .pointer (some ⟨w.heap.size + 1 + 1, 1, none⟩)) (W' := W) ?_ (Below.refl _ _) rfl
                    simp only [execOp]
                    go_simp
                  · obtain rfl : 218 = d := by simpa using hd
                    have q217 : ac.tmps[217]?.getD undef = .pointer (some ⟨w.heap.size + 1 + 1, 1, none⟩) := (eval_tmp _ _).symm.trans (hdep 23 217 rfl rfl)
                    have q211 : ac.tmps[211]?.getD undef = .bool true := (eval_tmp _ _).symm.trans (hdep 17 211 rfl rfl)
                    refine fact_value_on rfl (wants_on (t := 211) rfl rfl q211) rfl (v := .int .i64 x1) (W' := W) ?_ (Below.refl _ _) rfl
                    simp only [execOp]
                    go_simp
                  · obtain rfl : 219 = d := by simpa using hd
                    have q5 : ac.tmps[5]?.getD undef = .pointer (some ⟨w.heap.size + 1 + 1, 0, none⟩) := (eval_tmp _ _).symm.trans <| (hoff 5 (by decide)).trans rfl
                    have q211 : ac.tmps[211]?.getD undef = .bool true := (eval_tmp _ _).symm.trans (hdep 17 211 rfl rfl)
                    refine fact_value_on rfl (wants_on (t := 211) rfl rfl q211) rfl (v := .pointer (some ⟨w.heap.size + 1 + 1, 2, none⟩)) (W' := W) ?_ (Below.refl _ _) rfl
                    simp only [execOp]
                    go_simp
                  · obtain rfl : 220 = d := by simpa using hd
                    have q219 : ac.tmps[219]?.getD undef = .pointer (some ⟨w.heap.size + 1 + 1, 2, none⟩) := (eval_tmp _ _).symm.trans (hdep 25 219 rfl rfl)
                    have q211 : ac.tmps[211]?.getD undef = .bool true := (eval_tmp _ _).symm.trans (hdep 17 211 rfl rfl)
                    refine fact_value_on rfl (wants_on (t := 211) rfl rfl q211) rfl (v := .int .i64 x2) (W' := W) ?_ (Below.refl _ _) rfl
                    simp only [execOp]
                    go_simp
                  · obtain rfl : 221 = d := by simpa using hd
                    have q213 : ac.tmps[213]?.getD undef = .agg #[.slice a M.levers.length cap, .int .i64 M.water, .int .i64 M.lkLo, .int .i64 M.lkHi, .slice a2 M.bals.length cap2, .int .i64 M.wrong] := (eval_tmp _ _).symm.trans (hdep 19 213 rfl rfl)
                    have q214 : ac.tmps[214]?.getD undef = .agg #[.slice sa ss.length sc, .int .i64 sl] := (eval_tmp _ _).symm.trans (hdep 20 214 rfl rfl)
                    have q216 : ac.tmps[216]?.getD undef = .int .i64 x0 := (eval_tmp _ _).symm.trans (hdep 22 216 rfl rfl)
                    have q218 : ac.tmps[218]?.getD undef = .int .i64 x1 := (eval_tmp _ _).symm.trans (hdep 24 218 rfl rfl)
                    have q220 : ac.tmps[220]?.getD undef = .int .i64 x2 := (eval_tmp _ _).symm.trans (hdep 26 220 rfl rfl)
                    have q211 : ac.tmps[211]?.getD undef = .bool true := (eval_tmp _ _).symm.trans (hdep 17 211 rfl rfl)
                    refine fact_call_on rfl (wants_on (t := 211) rfl rfl q211) rfl (f := 27) (args := #[.agg #[.slice a M.levers.length cap, .int .i64 M.water, .int .i64 M.lkLo, .int .i64 M.lkHi, .slice a2 M.bals.length cap2, .int .i64 M.wrong], .agg #[.slice sa ss.length sc, .int .i64 sl], .int .i64 x0, .int .i64 x1, .int .i64 x2]) ?_ ?_
                    · simp only [execOp]
                      go_simp
                    · refine (HIP.out W hb).mono ?_
                      rintro e w' ⟨rfl, hb2⟩
                      exact ⟨_, rfl, hb2, rfl⟩
                  · obtain rfl : 222 = d := by simpa using hd
                    have q212 : ac.tmps[212]?.getD undef = .int .i64 KN := (eval_tmp _ _).symm.trans (hdep 18 212 rfl rfl)
                    have q221 : (ac.tmps[221]?.getD undef) = .bool pq := eval_tmp ac _ ▸ hdep 27 221 rfl rfl
                    have q211 : ac.tmps[211]?.getD undef = .bool true := (eval_tmp _ _).symm.trans (hdep 17 211 rfl rfl)
                    refine fact_call_on rfl (wants_on (t := 211) rfl rfl q211) rfl (f := 26) (args := #[.int .i64 KN, .bool pq]) ?_ ?_
                    · simp only [execOp]
                      go_simp
                    · refine (HAG.out W).mono ?_
                      rintro e w' ⟨rfl, rfl⟩
                      exact ⟨_, rfl, Below.refl _ _, rfl⟩
                  · obtain rfl : 223 = d := by simpa using hd
                    have q211 : ac.tmps[211]?.getD undef = .bool true := (eval_tmp _ _).symm.trans (hdep 17 211 rfl rfl)
                    have q222 : (ac.tmps[222]?.getD undef) = .bool true := eval_tmp ac _ ▸ hdep 28 222 rfl rfl
                    refine fact_value rfl rfl rfl (v := .bool true) (W' := W) ?_ (Below.refl _ _) rfl
                    simp only [execOp]
                    go_simp
                  · obtain rfl : 224 = d := by simpa using hd
                    have q223 : ac.tmps[223]?.getD undef = .bool true := (eval_tmp _ _).symm.trans (hdep 29 223 rfl rfl)
                    refine fact_value rfl rfl rfl (v := .bool true) (W' := W) ?_ (Below.refl _ _) rfl
                    simp only [execOp]
                    go_simp
                  · obtain rfl : 225 = d := by simpa using hd
                    have q224 : ac.tmps[224]?.getD undef = .bool true := (eval_tmp _ _).symm.trans (hdep 30 224 rfl rfl)
                    refine fact_call_on rfl (wants_on (t := 224) rfl rfl q224) rfl (f := 14) (args := #[]) ?_ ?_
                    · simp only [execOp]
                      go_simp
                    · refine (works_any W).mono ?_
                      rintro e w' ⟨rfl, hb2⟩
                      exact ⟨_, rfl, hb2, rfl⟩
                  · obtain rfl : 226 = d := by simpa using hd
                    have q224 : ac.tmps[224]?.getD undef = .bool true := (eval_tmp _ _).symm.trans (hdep 30 224 rfl rfl)
                    have q225 : (ac.tmps[225]?.getD undef) = .bool true := eval_tmp ac _ ▸ hdep 31 225 rfl rfl
                    refine fact_value rfl rfl rfl (v := .bool true) (W' := W) ?_ (Below.refl _ _) rfl
                    simp only [execOp]
                    go_simp
                case rest =>
                  intro vs W hvl hb hval
                  obtain ⟨v0, tl0, rfl, hl0⟩ := len_more hvl
                  obtain ⟨v1, tl1, rfl, hl1⟩ := len_more hl0
                  obtain ⟨v2, tl2, rfl, hl2⟩ := len_more hl1
                  obtain ⟨v3, tl3, rfl, hl3⟩ := len_more hl2
                  obtain ⟨v4, tl4, rfl, hl4⟩ := len_more hl3
                  obtain ⟨v5, tl5, rfl, hl5⟩ := len_more hl4
                  obtain ⟨v6, tl6, rfl, hl6⟩ := len_more hl5
                  obtain ⟨v7, tl7, rfl, hl7⟩ := len_more hl6
                  obtain ⟨v8, tl8, rfl, hl8⟩ := len_more hl7
                  obtain ⟨v9, tl9, rfl, hl9⟩ := len_more hl8
                  obtain ⟨v10, tl10, rfl, hl10⟩ := len_more hl9
                  obtain ⟨v11, tl11, rfl, hl11⟩ := len_more hl10
                  obtain ⟨v12, tl12, rfl, hl12⟩ := len_more hl11
                  obtain ⟨v13, tl13, rfl, hl13⟩ := len_more hl12
                  obtain ⟨v14, tl14, rfl, hl14⟩ := len_more hl13
                  obtain ⟨v15, tl15, rfl, hl15⟩ := len_more hl14
                  obtain ⟨v16, tl16, rfl, hl16⟩ := len_more hl15
                  obtain ⟨v17, tl17, rfl, hl17⟩ := len_more hl16
                  obtain ⟨v18, tl18, rfl, hl18⟩ := len_more hl17
                  obtain ⟨v19, tl19, rfl, hl19⟩ := len_more hl18
                  obtain ⟨v20, tl20, rfl, hl20⟩ := len_more hl19
                  obtain ⟨v21, tl21, rfl, hl21⟩ := len_more hl20
                  obtain ⟨v22, tl22, rfl, hl22⟩ := len_more hl21
                  obtain ⟨v23, tl23, rfl, hl23⟩ := len_more hl22
                  obtain ⟨v24, tl24, rfl, hl24⟩ := len_more hl23
                  obtain ⟨v25, tl25, rfl, hl25⟩ := len_more hl24
                  obtain ⟨v26, tl26, rfl, hl26⟩ := len_more hl25
                  obtain ⟨v27, tl27, rfl, hl27⟩ := len_more hl26
                  obtain ⟨v28, tl28, rfl, hl28⟩ := len_more hl27
                  obtain ⟨v29, tl29, rfl, hl29⟩ := len_more hl28
                  obtain ⟨v30, tl30, rfl, hl30⟩ := len_more hl29
                  obtain ⟨v31, tl31, rfl, hl31⟩ := len_more hl30
                  obtain ⟨v32, tl32, rfl, hl32⟩ := len_more hl31
                  obtain rfl := List.length_eq_zero_iff.1 hl32
                  clear hl0 hl1 hl2 hl3 hl4 hl5 hl6 hl7 hl8 hl9 hl10 hl11 hl12 hl13 hl14 hl15 hl16 hl17 hl18 hl19 hl20 hl21 hl22 hl23 hl24 hl25 hl26 hl27 hl28 hl29 hl30 hl31
                  obtain rfl : v0 = .pointer (some ⟨SB, 0, none⟩) := by obtain ⟨u, e, h⟩ := hval 0 (by omega); have e2 : some v0 = some u := e; injection e2 with e2; subst e2; exact h
                  obtain rfl : v1 = .int .i64 LO := by obtain ⟨u, e, h⟩ := hval 1 (by omega); have e2 : some v1 = some u := e; injection e2 with e2; subst e2; exact h
                  obtain rfl : v2 = .int .i64 FV := by obtain ⟨u, e, h⟩ := hval 2 (by omega); have e2 : some v2 = some u := e; injection e2 with e2; subst e2; exact h
                  obtain rfl : v3 = .int .i64 PV := by obtain ⟨u, e, h⟩ := hval 3 (by omega); have e2 : some v3 = some u := e; injection e2 with e2; subst e2; exact h
                  obtain rfl : v4 = .int .i64 QQ := by obtain ⟨u, e, h⟩ := hval 4 (by omega); have e2 : some v4 = some u := e; injection e2 with e2; subst e2; exact h
                  obtain rfl : v5 = .bool true := by obtain ⟨u, e, h⟩ := hval 5 (by omega); have e2 : some v5 = some u := e; injection e2 with e2; subst e2; exact h
                  obtain rfl : v6 = .bool true := by obtain ⟨u, e, h⟩ := hval 6 (by omega); have e2 : some v6 = some u := e; injection e2 with e2; subst e2; exact h
                  obtain rfl : v7 = .pointer (some ⟨SB, 1, none⟩) := by obtain ⟨u, e, h⟩ := hval 7 (by omega); have e2 : some v7 = some u := e; injection e2 with e2; subst e2; exact h
                  obtain rfl : v8 = .int .i64 HI := by obtain ⟨u, e, h⟩ := hval 8 (by omega); have e2 : some v8 = some u := e; injection e2 with e2; subst e2; exact h
                  obtain rfl : v9 = .int .i64 FV := by obtain ⟨u, e, h⟩ := hval 9 (by omega); have e2 : some v9 = some u := e; injection e2 with e2; subst e2; exact h
                  obtain rfl : v10 = .int .i64 PV := by obtain ⟨u, e, h⟩ := hval 10 (by omega); have e2 : some v10 = some u := e; injection e2 with e2; subst e2; exact h
                  obtain rfl : v11 = .int .i64 (FV + PV) := by obtain ⟨u, e, h⟩ := hval 11 (by omega); have e2 : some v11 = some u := e; injection e2 with e2; subst e2; exact h
                  obtain rfl : v12 = .int .i64 (FV + PV - 1) := by obtain ⟨u, e, h⟩ := hval 12 (by omega); have e2 : some v12 = some u := e; injection e2 with e2; subst e2; exact h
                  obtain rfl : v13 = .int .i64 PV := by obtain ⟨u, e, h⟩ := hval 13 (by omega); have e2 : some v13 = some u := e; injection e2 with e2; subst e2; exact h
                  obtain rfl : v14 = .int .i64 UU := by obtain ⟨u, e, h⟩ := hval 14 (by omega); have e2 : some v14 = some u := e; injection e2 with e2; subst e2; exact h
                  obtain rfl : v15 = .bool true := by obtain ⟨u, e, h⟩ := hval 15 (by omega); have e2 : some v15 = some u := e; injection e2 with e2; subst e2; exact h
                  obtain rfl : v16 = .bool true := by obtain ⟨u, e, h⟩ := hval 16 (by omega); have e2 : some v16 = some u := e; injection e2 with e2; subst e2; exact h
                  obtain rfl : v17 = .bool true := by obtain ⟨u, e, h⟩ := hval 17 (by omega); have e2 : some v17 = some u := e; injection e2 with e2; subst e2; exact h
                  obtain rfl : v18 = .int .i64 KN := by obtain ⟨u, e, h⟩ := hval 18 (by omega); have e2 : some v18 = some u := e; injection e2 with e2; subst e2; exact h
                  obtain rfl : v19 = .agg #[.slice a M.levers.length cap, .int .i64 M.water, .int .i64 M.lkLo, .int .i64 M.lkHi, .slice a2 M.bals.length cap2, .int .i64 M.wrong] := by obtain ⟨u, e, h⟩ := hval 19 (by omega); have e2 : some v19 = some u := e; injection e2 with e2; subst e2; exact h
                  obtain rfl : v20 = .agg #[.slice sa ss.length sc, .int .i64 sl] := by obtain ⟨u, e, h⟩ := hval 20 (by omega); have e2 : some v20 = some u := e; injection e2 with e2; subst e2; exact h
                  obtain rfl : v21 = .pointer (some ⟨w.heap.size + 1 + 1, 0, none⟩) := by obtain ⟨u, e, h⟩ := hval 21 (by omega); have e2 : some v21 = some u := e; injection e2 with e2; subst e2; exact h
                  obtain rfl : v22 = .int .i64 x0 := by obtain ⟨u, e, h⟩ := hval 22 (by omega); have e2 : some v22 = some u := e; injection e2 with e2; subst e2; exact h
                  obtain rfl : v23 = .pointer (some ⟨w.heap.size + 1 + 1, 1, none⟩) := by obtain ⟨u, e, h⟩ := hval 23 (by omega); have e2 : some v23 = some u := e; injection e2 with e2; subst e2; exact h
                  obtain rfl : v24 = .int .i64 x1 := by obtain ⟨u, e, h⟩ := hval 24 (by omega); have e2 : some v24 = some u := e; injection e2 with e2; subst e2; exact h
                  obtain rfl : v25 = .pointer (some ⟨w.heap.size + 1 + 1, 2, none⟩) := by obtain ⟨u, e, h⟩ := hval 25 (by omega); have e2 : some v25 = some u := e; injection e2 with e2; subst e2; exact h
                  obtain rfl : v26 = .int .i64 x2 := by obtain ⟨u, e, h⟩ := hval 26 (by omega); have e2 : some v26 = some u := e; injection e2 with e2; subst e2; exact h
                  have k27 : v27 = .bool pq := by obtain ⟨u, e, h⟩ := hval 27 (by omega); have e2 : some v27 = some u := e; injection e2 with e2; subst e2; exact h
                  have k28 : v28 = .bool true := by obtain ⟨u, e, h⟩ := hval 28 (by omega); have e2 : some v28 = some u := e; injection e2 with e2; subst e2; exact h
                  obtain rfl : v29 = .bool true := by obtain ⟨u, e, h⟩ := hval 29 (by omega); have e2 : some v29 = some u := e; injection e2 with e2; subst e2; exact h
                  obtain rfl : v30 = .bool true := by obtain ⟨u, e, h⟩ := hval 30 (by omega); have e2 : some v30 = some u := e; injection e2 with e2; subst e2; exact h
                  have k31 : v31 = .bool true := by obtain ⟨u, e, h⟩ := hval 31 (by omega); have e2 : some v31 = some u := e; injection e2 with e2; subst e2; exact h
                  obtain rfl : v32 = .bool true := by obtain ⟨u, e, h⟩ := hval 32 (by omega); have e2 : some v32 = some u := e; injection e2 with e2; subst e2; exact h
                  clear hval
                  simp only [putL, Act.put, List.drop, List.setIfInBounds_toArray, List.set_cons_zero, List.set_cons_succ]
                  have HBW := Lib.hid (HB.out.trans ((HXY.out.trans (hb.mono HXY.out.size)).mono HB.out.size))
                  clear hb k27 k28 k31
                  go_wp2
                  go_ret
                  exact ⟨rfl, HBW.out⟩
end Go.Proofs.Ytomcjopcfdllgaa
