/-
  Links, the law's reference: the first sight that contradicts those before it; what First and Next answer of a chain that is not valid.
  A law's body: the first sight that tells, and the mark to read next (P2.10, P2.11).
-/
import Derived.Test.YtgjikoebneiamaaLWhoM
import Derived.Test.YtgjikoebneiamaaLSmall
import Derived.Test.YtgjikoebneiamaaLWorks
import Derived.Test.YtgjikoebneiamaaLNext
import Derived.Test.YtgjikoebneiamaaLTwo
import Derived.Test.YtgjikoebneiamaaLFar
import Derived.Test.YtgjikoebneiamaaLCopy
import Derived.Test.YtgjikoebneiamaaLVals
import Derived.Deep.DeepCutAuto

namespace Go.Proofs.Ytgjikoebneiamaa
open Go.RowKit Go.Shelf

theorem wrongsTo_mono {C : Chain} {x : List Int} {i : Nat} : ∀ {k : Nat}, i ≤ k → wrongsTo C x i ≤ wrongsTo C x k
  | 0, h => by obtain rfl : i = 0 := by omega
               exact Int.le_refl _
  | k + 1, h => by
    by_cases e : i = k + 1
    · subst e; exact Int.le_refl _
    · have := wrongsTo_mono (C := C) (x := x) (i := i) (k := k) (by omega)
      simp only [wrongsTo]
      split <;> omega
theorem few_cut {C : Chain} {k : Nat} (hk : k ≤ C.sights.length) : fewV (cutS C k) = 0 ↔ ∃ x ∈ pastsL C.deeds, wrongsTo C x k = 0 := by
  rw [← few_pos, some_iff]
  constructor
  · rintro ⟨x, hx, h⟩
    refine ⟨x, hx, bad_iff.1 ?_⟩
    have : badV (cutS C k) x = badTo C x k := by rw [badV, cutS_len hk, cutS_badTo (Nat.le_refl _)]
    rwa [← this]
  · rintro ⟨x, hx, h⟩
    refine ⟨x, hx, ?_⟩
    rw [badV, cutS_len hk, cutS_badTo (Nat.le_refl _)]
    exact bad_iff.2 h
/-- Up to which sight nothing contradicts, and what First says of it. -/
theorem first_cut (C : Chain) : ∃ K : Nat, K ≤ C.sights.length ∧ (∀ n, n < K → fewV (cutS C (n + 1)) = 0) ∧ ((K = C.sights.length ∧ firstV C = 0 ∧ firstE C = 3) ∨ (K < C.sights.length ∧ 0 < fewV (cutS C (K + 1)) ∧ firstV C = K ∧ firstE C = 0)) := by
  cases hg : someGood C
  · obtain ⟨k, hk, hfv, hfe, hall, x, hx, hxk⟩ := first_is hg
    refine ⟨k, by omega, fun n hn => ?_, .inr ⟨hk, ?_, hfv, hfe⟩⟩
    · refine (few_cut (by omega)).2 ⟨x, hx, ?_⟩
      have h1 := bad_iff.1 (bad_before (n := C.sights.length) hxk (by omega))
      have h2 := wrongsTo_mono (C := C) (x := x) (i := n + 1) (k := k) (by omega)
      have h3 := (wrongsTo_le C x (n + 1)).1
      omega
    · have := (contra hk hall ⟨x, hx, hxk⟩).2.1
      omega
  · obtain ⟨x, hx, h⟩ := some_iff.1 hg
    refine ⟨C.sights.length, Nat.le_refl _, fun n hn => ?_, .inl ⟨rfl, by simp [firstV, hg], by simp [firstE, hg]⟩⟩
    refine (few_cut (by omega)).2 ⟨x, hx, ?_⟩
    have h1 := bad_iff.1 h
    have h2 := wrongsTo_mono (C := C) (x := x) (i := n + 1) (k := C.sights.length) (by omega)
    have h3 := (wrongsTo_le C x (n + 1)).1
    omega
theorem chain_cut {W : World} {a a2 : Option Addr} {cap cap2 k : Nat} {C : Chain} (h : ChainAt W.heap.size W (.agg #[.slice a C.deeds.length cap, .slice a2 C.sights.length cap2, .int .i64 C.wrong]) C) (hk : k ≤ C.sights.length) : ChainAt W.heap.size W (.agg #[.slice a C.deeds.length cap, .slice a2 k cap2, .int .i64 C.wrong]) (cutS C k) := by
  obtain ⟨dv, sv, e, h1, h2, h3⟩ := h
  injection e with e
  simp only [Array.mk.injEq, List.cons.injEq, and_true] at e
  obtain ⟨rfl, rfl⟩ := e
  obtain ⟨a', cp, b', off', e2, g1, g2, g3, g4, g5⟩ := h2
  simp only [Value.slice.injEq] at e2
  obtain ⟨rfl, _, rfl⟩ := e2
  exact ⟨_, _, rfl, h1, ⟨a2, cap2, b', off', by rw [cutS_len hk], by rw [cutS_len hk]; omega, g2, fun h => g3 (by rw [cutS_len hk] at h; omega), fun i hi => by rw [cutS_len hk] at hi; rw [cutS_nth hi]; exact g4 i (by omega),
    fun i hi => by rw [cutS_len hk] at hi; rw [cutS_nth hi]; exact g5 i (by omega)⟩, h3⟩
theorem few_is {C : Chain} {k : Nat} {x : Int} (hV : validB C = true) (hk : k ≤ C.sights.length) (h : fewV (cutS C k) = x) : (if validB (cutS C k) = true then fewV (cutS C k) else 0) = x ∧ chkS (cutS C k) = 0 := by
  have hv := valid_iff.2 (cutS_valid (valid_iff.1 hV) hk)
  exact ⟨by rw [if_pos hv, h], chkS_ok hv⟩

set_option maxRecDepth 100000 in
set_option maxHeartbeats 4000000 in
theorem rFirst_any (v : Value) (C : Chain) (w : World) (hx : ChainAt w.heap.size w v C) :
    Calls Try.prog 41 #[v] w fun e w' => e = .returned (.tuple #[.int .i64 (if validB C = true then firstV C else 0), .int .i64 (if validB C = true then firstE C else 20)]) ∧ Below w.heap.size w w' := by
  have hx' := hx
  obtain ⟨a, cap, b, off, a2, cap2, b2, off2, rfl, hm, hm2, hcap, hcapm, HA, HC, HA2, HC2, HI, HI2⟩ := hx.opened
  have HS0 := Lib.hid (LStat.first hx')
  obtain ⟨c0, c1, c2⟩ := HS0.out.cells
  have hcp2 : C.sights.length ≤ cap2 := by
    obtain ⟨_, sv, e, _, ⟨_, cp, _, _, rfl, h1, _⟩, _⟩ := hx'
    injection e with e
    simp only [Array.mk.injEq, List.cons.injEq, and_true, Value.slice.injEq] at e
    omega
  clear hx hx' HA HC HC2 HI HI2
  cases hv : validB C
  case false =>
    have HV := Lib.hid hv
    clear hv
    go_enter Try.func41, Try.ntmps41
    go_wp2_with fail
    refine (rCheck_to (chkS_bad HV.out) HS0.out.st).mono ?_
    rintro e w1 ⟨rfl, hb1⟩
    have HB := Lib.hid (HS0.out.next hb1).b
    clear hb1
    go_wp2
    go_ret2
    exact ⟨rfl, HB.out⟩
  have HV := Lib.hid hv
  have hns := (valid_iff.1 hv).ns
  obtain ⟨K, hK, hzero, hend⟩ := first_cut C
  obtain ⟨R, hR⟩ : ∃ R, firstV C = R := ⟨_, rfl⟩
  obtain ⟨E, hE⟩ : ∃ E, firstE C = E := ⟨_, rfl⟩
  rw [if_pos rfl, if_pos rfl, hR, hE]
  rw [hR, hE] at hend
  have HZ := Lib.hid hzero
  have HEND := Lib.hid hend
  clear hv hzero hend hR hE
  go_enter Try.func41, Try.ntmps41
  go_wp2_with fail
  refine (rCheck_to (chkS_ok HV.out) HS0.out.st).mono ?_
  rintro e w1 ⟨rfl, hb1⟩
  have HS1 := Lib.hid (HS0.out.next hb1)
  clear hb1 c0 c1 c2
  obtain ⟨c0, c1, c2⟩ := HS1.out.cells
  go_wp2_with fail
  go_loopw [5] (fun i wr => ∃ n : Nat, n ≤ K ∧ i = .int .i64 n ∧ Hid (Below w1.heap.size w1 wr)) (fun i _ => K - (intOf i).toNat)
  case atStart => exact ⟨0, Nat.zero_le _, rfl, Below.refl _ _⟩
  case round =>
    obtain ⟨n, hn, rfl, hbl⟩ := hrel
    clear c0 c1 c2
    have HSR := Lib.hid (HS1.out.next hbl.out)
    obtain ⟨c0, c1, c2⟩ := HSR.out.cells
    by_cases hlt : n < C.sights.length
    · obtain ⟨rfl, _⟩ := HA2.out (by omega)
      obtain ⟨F, hF⟩ : ∃ F, fewV (cutS C (n + 1)) = F := ⟨_, rfl⟩
      have HF := Lib.hid (few_is HV.out (k := n + 1) (by omega) hF)
      have HF2 := Lib.hid hF
      have hn0 : (0 : Int) ≤ (n : Nat) := by omega
      have hn1 : ((n : Nat) : Int) < (C.sights.length : Int) := by omega
      have hn2 : ((n : Nat) : Int) + 1 ≤ (cap2 : Int) := by omega
      have hw : IntKind.i64.wrap ((n : Int) + 1) = ((n + 1 : Nat) : Int) := by rw [IntWalk.i64_in _ (by omega)]; omega
      have hnn : 0 ≤ (n : Int) + 1 := by omega
      have hn3 : ((n + 1 : Nat) : Int) ≤ (cap2 : Int) := by omega
      have hn4 : (0 : Int) ≤ ((n + 1 : Nat) : Int) := by omega
      have hn5 : ((n : Int) + 1).toNat = n + 1 := by omega
      clear hF
      go_upto_region 8 with fail
      obtain ⟨z, hz⟩ : ∃ z, z = wr.alloc (.cells #[.slice a C.deeds.length cap, .slice (some ⟨b2, off2, none⟩) C.sights.length cap2, .int .i64 C.wrong] 25) := ⟨_, rfl⟩
      have hzb : z.heap[wr.heap.size]? = some (.cells #[.slice a C.deeds.length cap, .slice (some ⟨b2, off2, none⟩) C.sights.length cap2, .int .i64 C.wrong] 25) := by rw [hz]; exact heap_new _ _
      have hzB : Below wr.heap.size wr z := by rw [hz]; exact (Below.refl _ _).alloc (Nat.le_refl _) _
      rw [← hz]
      clear hz c0 c1 c2
      have hsz := HSR.out.next hzB
      obtain ⟨c0, c1, c2⟩ := hsz.cells
      obtain ⟨⟨o0, o1, o2⟩, of⟩ := box3f_of hzb
      have of1 := of 1
      have HZB := Lib.hid hzB
      have hq := heap_lt hzb
      clear of hsz hzB hzb
      go_wp2_with fail
      have hbs : Below wr.heap.size wr (z.setCell ⟨wr.heap.size, 1, none⟩ (.slice (some ⟨b2, off2, none⟩) (n + 1) cap2)) := below_setCell HZB.out (Nat.le_refl _)
      refine (rFewest_u HF.out.1 HF.out.2 (chain_cut ((HSR.out.st.below hbs).mono hbs.size) (k := n + 1) (by omega))).mono ?_
      rintro e z2 ⟨rfl, hb⟩
      have HB2 := Lib.hid (hbl.out.trans ((hbs.trans (hb.mono hbs.size)).mono hbl.out.size))
      have HS2 := Lib.hid (HS1.out.next HB2.out)
      clear hb hbs c0 c1 c2 o0 o1 o2 of1
      by_cases hnK : n < K
      · obtain rfl : (0 : Int) = F := by rw [← HF2.out, HZ.out n hnK]
        go_wp2
        exact ⟨⟨n + 1, by omega, by go_num, HB2.out⟩, by simp [intOf]; omega⟩
      · obtain rfl : n = K := by omega
        have hend := HEND.out
        rcases hend with ⟨h, _⟩ | ⟨_, h1, h2, h3⟩
        · omega
        · have hF0 : 0 < F := by rw [← HF2.out]; exact h1
          subst h2 h3
          clear h1
          go_wp2
          go_ret2
          exact ⟨rfl, HS2.out.b⟩
    · have hend := HEND.out
      rcases hend with ⟨h, h2, h3⟩ | ⟨h, _⟩
      · subst h2 h3
        have hn1 : ¬ ((n : Nat) : Int) < (C.sights.length : Int) := by omega
        clear h
        go_wp2
        go_ret2
        exact ⟨rfl, HSR.out.b⟩
      · omega

set_option maxHeartbeats 1000000 in
theorem First_bad (a a2 : Option Addr) (cap cap2 : Nat) (C : Chain) (w : World)
    (hx : ChainAt w.heap.size w (.agg #[.slice a C.deeds.length cap, .slice a2 C.sights.length cap2, .int .i64 C.wrong]) C) (hV : validB C = false) :
    Calls Try.prog 40 #[.agg #[.slice a C.deeds.length cap, .slice a2 C.sights.length cap2, .int .i64 C.wrong]] w fun e w' => e = .returned (.tuple #[.int .i64 0, .int .i64 20]) ∧ Below w.heap.size w w' := by
  have HX := Lib.hid (fun W (hb : Below w.heap.size w W) => (hx.below hb).mono hb.size)
  have HV := Lib.hid hV
  clear hx hV
  go_enter Try.func40, Try.ntmps40
  go_wp2_with fail
  refine (open_bad _ C _ (HX.out _ (by go_grown)) HV.out).mono ?_
  rintro e w1 ⟨rfl, hb1⟩
  have hb1s := hb1.size
  simp only [World.size_alloc] at hb1s
  obtain ⟨g0, g1, g2, g3, gs⟩ := heap3 w (.cells #[.slice a C.deeds.length cap, .slice a2 C.sights.length cap2, .int .i64 C.wrong] 25) (.cells #[.int .i64 0] 3) (.cells #[.int .i64 0] 29)
  have HBW := Lib.hid (g3.trans (hb1.mono (by omega)))
  have e1 := (hb1.block (w.heap.size + 1) (by omega)).trans g1
  have e2 := (hb1.block (w.heap.size + 1 + 1) (by omega)).trans g2
  have e1' := (Below.heap_alloc w1 (.cells #[.slice none 0 0, .slice none 0 0, .int .i64 0, .slice none 0 0] 84) _ (heap_lt e1)).trans e1
  have e2' := (Below.heap_alloc w1 (.cells #[.slice none 0 0, .slice none 0 0, .int .i64 0, .slice none 0 0] 84) _ (heap_lt e2)).trans e2
  obtain ⟨r1, f1⟩ := cell1_of e1'
  obtain ⟨r2, f2⟩ := cell1_of e2'
  have HE1 := Lib.hid e1'
  have HE2 := Lib.hid e2'
  have hws := HBW.out.size
  clear hb1 g0 g1 g2 g3 e1 e2 e1' e2'
  unfold noBook
  go_wp2_with fail
  have hx1 : (((w1.alloc (.cells #[.slice none 0 0, .slice none 0 0, .int .i64 0, .slice none 0 0] 84)).setCell ⟨w.heap.size + 1, 0, none⟩ (.int .i64 0)).setCell ⟨w.heap.size + 1 + 1, 0, none⟩ (.int .i64 20)).heap[w.heap.size + 1]? = some (.cells #[.int .i64 0] 3) := by rw [heap_setCell_other (by simp)]; exact set_box _ HE1.out
  have hx2 : (((w1.alloc (.cells #[.slice none 0 0, .slice none 0 0, .int .i64 0, .slice none 0 0] 84)).setCell ⟨w.heap.size + 1, 0, none⟩ (.int .i64 0)).setCell ⟨w.heap.size + 1 + 1, 0, none⟩ (.int .i64 20)).heap[w.heap.size + 1 + 1]? = some (.cells #[.int .i64 20] 29) := set_box _ ((heap_setCell_other (by simp)).trans HE2.out)
  have y1 := (cell1_of hx1).1
  have y2 := (cell1_of hx2).1
  clear hx1 hx2
  refine bodyPost_ret (v := .tuple #[.int .i64 0, .int .i64 20]) (by simp [results, Try.results40, go_sem, y1, y2]) rfl ⟨rfl, ?_⟩
  exact below_setCell (below_setCell (HBW.out.alloc hws _) (by show w.heap.size ≤ w.heap.size + 1; omega)) (by show w.heap.size ≤ w.heap.size + 1 + 1; omega)
set_option maxHeartbeats 1000000 in
theorem Next_bad (a a2 : Option Addr) (cap cap2 : Nat) (C : Chain) (w : World)
    (hx : ChainAt w.heap.size w (.agg #[.slice a C.deeds.length cap, .slice a2 C.sights.length cap2, .int .i64 C.wrong]) C) (hV : validB C = false) :
    Calls Try.prog 42 #[.agg #[.slice a C.deeds.length cap, .slice a2 C.sights.length cap2, .int .i64 C.wrong]] w fun e w' => e = .returned (.tuple #[.int .i64 0, .int .i64 20]) ∧ Below w.heap.size w w' := by
  have HX := Lib.hid (fun W (hb : Below w.heap.size w W) => (hx.below hb).mono hb.size)
  have HV := Lib.hid hV
  clear hx hV
  go_enter Try.func42, Try.ntmps42
  go_wp2_with fail
  refine (open_bad _ C _ (HX.out _ (by go_grown)) HV.out).mono ?_
  rintro e w1 ⟨rfl, hb1⟩
  have hb1s := hb1.size
  simp only [World.size_alloc] at hb1s
  have HBW := Lib.hid (show Below w.heap.size w w1 from ((Below.refl _ w).alloc (Nat.le_refl _) _).trans (hb1.mono (by simp; try omega)))
  have hws := HBW.out.size
  clear hb1
  unfold noBook
  go_wp2_with fail
  go_ret2
  exact ⟨rfl, by
    first
      | exact HBW.out
      | exact HBW.out.alloc hws _⟩

theorem First_u {a a2 : Option Addr} {cap cap2 : Nat} {C : Chain} {w : World} {x y : Int} (hf : (if validB C = true then firstV C else 0) = x) (he : (if validB C = true then firstE C else 20) = y)
    (hx : ChainAt w.heap.size w (.agg #[.slice a C.deeds.length cap, .slice a2 C.sights.length cap2, .int .i64 C.wrong]) C) :
    Calls Try.prog 40 #[.agg #[.slice a C.deeds.length cap, .slice a2 C.sights.length cap2, .int .i64 C.wrong]] w fun e w' => e = .returned (.tuple #[.int .i64 x, .int .i64 y]) ∧ Below w.heap.size w w' := by
  subst hf he
  cases hV : validB C
  · rw [if_neg (by simp), if_neg (by simp)]
    exact First_bad a a2 cap cap2 C w hx hV
  · rw [if_pos rfl, if_pos rfl]
    exact First_l rfl rfl rfl rfl hx hV
theorem rFirst_u {v : Value} {C : Chain} {w : World} {x y : Int} (hf : (if validB C = true then firstV C else 0) = x) (he : (if validB C = true then firstE C else 20) = y) (hx : ChainAt w.heap.size w v C) :
    Calls Try.prog 41 #[v] w fun e w' => e = .returned (.tuple #[.int .i64 x, .int .i64 y]) ∧ Below w.heap.size w w' := by
  subst hf he
  exact rFirst_any v C w hx

end Go.Proofs.Ytgjikoebneiamaa

namespace Go.Proofs.Ytgjikoebneiamaa
open Go.RowKit

theorem near_it {C : Chain} (h : farB C = false) : C.deeds.length ≤ 40 ∧ C.sights.length ≤ 40 := by
  simp only [farB, Bool.or_eq_false_iff, decide_eq_false_iff_not] at h
  omega
theorem next_same {C : Chain} (hV : validB C = true) : nxV C (lenN C) = nextV C ∧ nxE C (lenN C) = nextE C := by
  have hp := truths_perm (valid_iff.1 hV)
  have hl := hp.length_eq
  have hk : knownL C true = truthsR C := by simp [knownL, hV]
  have he : knownE C true = noneE (truthsR C).length := by simp [knownE, hV]
  by_cases ht : (truthsP C).isEmpty = true
  · have h0 : (truthsR C).length = 0 := by rw [hl]; simpa using ht
    have h3 : knownE C true = 3 := by rw [he, h0]; rfl
    have hA : (truthsP C).isEmpty = true ∨ lenN C = 0 := .inl ht
    rw [nxV, nxE, nextV, nextE, if_pos hA, if_pos hA, h3]
    exact ⟨rfl, rfl⟩
  · have h0 : ¬ (truthsR C).length = 0 := by
      rw [hl]
      intro q
      exact ht (by simpa using q)
    have h3 : knownE C true = 0 := by rw [he, noneE_pos h0]
    by_cases hN : lenN C = 0
    · have hA : (truthsP C).isEmpty = true ∨ lenN C = 0 := .inr hN
      have hB : ¬ (knownE C true = 0 ∧ lenN C ≠ 0) := fun q => q.2 hN
      rw [nxV, nxE, nextV, nextE, if_pos hA, if_pos hA, if_neg hB, if_pos h3, if_pos hN]
      exact ⟨rfl, rfl⟩
    · have hn : ¬ ((truthsP C).isEmpty = true ∨ lenN C = 0) := fun q => q.elim ht hN
      have hB : knownE C true = 0 ∧ lenN C ≠ 0 := ⟨h3, hN⟩
      rw [nxV, nxE, nextV, nextE, if_neg hn, if_neg hn, if_pos hB, if_pos h3, if_neg hN, hk]
      refine ⟨?_, rfl⟩
      have : (fun k => mostM (marksL C k (truthsP C))) = (fun k => mostM (marksL C k (truthsR C))) := by
        funext k
        exact most_perm ((List.reverse_perm _).trans ((hp.symm.map _).trans (List.reverse_perm _).symm))
      rw [this]
theorem Next_u {a a2 : Option Addr} {cap cap2 : Nat} {C : Chain} {w : World} {x y : Int} (hf : nextV C = x) (he : nextE C = y)
    (hx : ChainAt w.heap.size w (.agg #[.slice a C.deeds.length cap, .slice a2 C.sights.length cap2, .int .i64 C.wrong]) C) :
    Calls Try.prog 42 #[.agg #[.slice a C.deeds.length cap, .slice a2 C.sights.length cap2, .int .i64 C.wrong]] w fun e w' => e = .returned (.tuple #[.int .i64 x, .int .i64 y]) ∧ Below w.heap.size w w' := by
  subst hf he
  cases hV : validB C
  · obtain ⟨_, h2⟩ := known_bad (is := true) hV
    rw [nextV, nextE, h2, if_neg (by simp), if_neg (by decide)]
    exact Next_bad a a2 cap cap2 C w hx hV
  · rw [← (next_same hV).1, ← (next_same hV).2]
    exact wide_calls (Next_in Fence.wide rfl rfl rfl (fun _ => trivial) 9 (by omega) a a2 cap cap2 C w hx hV)
theorem rNext_u {v : Value} {C : Chain} {w : World} {x y : Int} (hf : nextV C = x) (he : nextE C = y) (hn : C.deeds.length ≤ 40) (hx : ChainAt w.heap.size w v C) :
    Calls Try.prog 43 #[v] w fun e w' => e = .returned (.tuple #[.int .i64 x, .int .i64 y]) ∧ Below w.heap.size w w' := by
  subst hf he
  exact rNext_any v C w hn hx

set_option maxRecDepth 100000 in
set_option maxHeartbeats 32000000 in
theorem LinksFirst_any (v : Value) (C : Chain) (w : World) (hx : ChainAt w.heap.size w v C) :
    Calls Try.prog 5 #[v] w fun e w' => e = .returned (.bool true) ∧ Below w.heap.size w w' := by
  have hx' := hx
  obtain ⟨a, cap, b, off, a2, cap2, b2, off2, rfl, hm, hm2, hcap, hcapm, HA, HC, HA2, HC2, HI, HI2⟩ := hx.opened
  have HS0 := Lib.hid (LStat.first hx')
  clear hx hx' HA HC HA2 HC2 HI HI2
  obtain ⟨c0, c1, c2⟩ := HS0.out.cells
  cases hf : farB C
  case true =>
    have HF := Lib.hid hf
    clear hf
    go_enter Try.func5, Try.ntmps5
    go_wp2_with fail
    refine (Far_to HF.out HS0.out.st).mono ?_
    rintro e z1 ⟨rfl, hb⟩
    have HS1 := Lib.hid (HS0.out.next hb)
    clear hb c0 c1 c2
    go_wp2_with (go_at_call 14; refine (works_any _).mono ?_; rintro e wz ⟨rfl, hb⟩; have HBZ := Lib.hid (HS1.out.next hb).b; clear hb)
    go_ret
    exact ⟨rfl, HBZ.out⟩
  obtain ⟨hn1, hn2⟩ := near_it hf
  have HF := Lib.hid hf
  have HN1 := Lib.hid hn1
  have HN2 := Lib.hid hn2
  obtain ⟨FV, hFV⟩ : ∃ FV, (if validB C = true then firstV C else 0) = FV := ⟨_, rfl⟩
  obtain ⟨FE, hFE⟩ : ∃ FE, (if validB C = true then firstE C else 20) = FE := ⟨_, rfl⟩
  obtain ⟨NV, hNV⟩ : ∃ NV, nextV C = NV := ⟨_, rfl⟩
  obtain ⟨NE, hNE⟩ : ∃ NE, nextE C = NE := ⟨_, rfl⟩
  have HFV := Lib.hid hFV
  have HFE := Lib.hid hFE
  have HNV := Lib.hid hNV
  have HNE := Lib.hid hNE
  clear hf hn1 hn2 hFV hFE hNV hNE
  go_enter Try.func5, Try.ntmps5
  go_wp2_with fail
  refine (Far_to HF.out HS0.out.st).mono ?_
  rintro e z1 ⟨rfl, hb⟩
  clear c0 c1 c2
  have HS1 := Lib.hid (HS0.out.next hb)
  clear HS0 hb
  obtain ⟨c0, c1, c2⟩ := HS1.out.cells
  go_wp2_with fail
  refine (Copy_any _ C _ HS1.out.st (by have := HN1.out; omega) (by have := HN2.out; omega)).mono ?_
  rintro e z2 ⟨u, rfl, hcp, hb⟩
  obtain ⟨f1, p1, f2, p2, rfl, hp1, hp2⟩ := hcp.shape
  have HB1 := Lib.hid hb
  have HCP := Lib.hid hcp
  have hs1 := hb.size
  clear hb hcp c0 c1 c2
  go_upto_region 4 with fail
  obtain ⟨z3, hY⟩ : ∃ Y, Y = z2.alloc (.cells #[.slice f1 C.deeds.length p1, .slice f2 C.sights.length p2, .int .i64 C.wrong] 25) := ⟨_, rfl⟩
  have hYB : z3.heap[z2.heap.size]? = some (.cells #[.slice f1 C.deeds.length p1, .slice f2 C.sights.length p2, .int .i64 C.wrong] 25) := by rw [hY]; exact heap_new _ _
  have hb : Below z1.heap.size z1 z3 := by rw [hY]; exact HB1.out.alloc hs1 _
  have hYc : CopyAt z1.heap.size z3 (.agg #[.slice f1 C.deeds.length p1, .slice f2 C.sights.length p2, .int .i64 C.wrong]) C := by rw [hY]; exact HCP.out.below ((Below.refl _ _).alloc (Nat.le_refl _) _)
  rw [← hY]
  clear hY HCP HB1
  have HS2 := Lib.hid (HS1.out.next hb)
  have HO2 := Lib.hid (show LStat w z3 z2.heap.size (.slice f1 C.deeds.length p1) (.slice f2 C.sights.length p2) (.int .i64 C.wrong) C from ⟨hYB, hYc.chain, HS2.out.b⟩)
  clear HS1 hYB hYc hb hs1
  obtain ⟨zz, hzz⟩ : ∃ zz, z2.heap.size = zz := ⟨_, rfl⟩
  rw [hzz] at HO2 ⊢
  clear hzz
  have HS3 := HS2
  have HO3 := HO2
  clear HS2 HO2
  obtain ⟨c0, c1, c2⟩ := HS3.out.cells
  obtain ⟨o0, o1, o2⟩ := HO3.out.cells
  go_wp2_with fail
  refine (First_u HFV.out HFE.out HO3.out.st).mono ?_
  rintro e z4 ⟨rfl, hb⟩
  clear c0 c1 c2 o0 o1 o2
  have HS4 := Lib.hid (HS3.out.next hb)
  have HO4 := Lib.hid (HO3.out.next hb)
  clear HS3 HO3 hb
  obtain ⟨c0, c1, c2⟩ := HS4.out.cells
  obtain ⟨o0, o1, o2⟩ := HO4.out.cells
  go_wp2_with fail
  refine (rFirst_u HFV.out HFE.out HS4.out.st).mono ?_
  rintro e z5 ⟨rfl, hb⟩
  clear c0 c1 c2 o0 o1 o2
  have HS5 := Lib.hid (HS4.out.next hb)
  have HO5 := Lib.hid (HO4.out.next hb)
  clear HS4 HO4 hb
  obtain ⟨c0, c1, c2⟩ := HS5.out.cells
  obtain ⟨o0, o1, o2⟩ := HO5.out.cells
  go_wp2_with fail
  refine (Next_u HNV.out HNE.out HO5.out.st).mono ?_
  rintro e z6 ⟨rfl, hb⟩
  clear c0 c1 c2 o0 o1 o2
  have HS6 := Lib.hid (HS5.out.next hb)
  have HO6 := Lib.hid (HO5.out.next hb)
  clear HS5 HO5 hb
  obtain ⟨c0, c1, c2⟩ := HS6.out.cells
  obtain ⟨o0, o1, o2⟩ := HO6.out.cells
  go_wp2_with fail
  refine (rNext_u HNV.out HNE.out HN1.out HS6.out.st).mono ?_
  rintro e z7 ⟨rfl, hb⟩
  clear c0 c1 c2 o0 o1 o2
  have HS7 := Lib.hid (HS6.out.next hb)
  have HO7 := Lib.hid (HO6.out.next hb)
  clear HS6 HO6 hb
  obtain ⟨c0, c1, c2⟩ := HS7.out.cells
  obtain ⟨o0, o1, o2⟩ := HO7.out.cells
  go_wp2_with fail
  refine (Same_any _ _ C _ HO7.out.st HS7.out.st).mono ?_
  rintro e z8 ⟨rfl, hb⟩
  clear c0 c1 c2 o0 o1 o2
  have HS8 := Lib.hid (HS7.out.next hb)
  have HO8 := Lib.hid (HO7.out.next hb)
  clear HS7 HO7 hb
  obtain ⟨c0, c1, c2⟩ := HS8.out.cells
  obtain ⟨o0, o1, o2⟩ := HO8.out.cells
  go_wp2_with (go_at_call 14; refine (works_any _).mono ?_; rintro e wz ⟨rfl, hb⟩; have HBZ := Lib.hid (HS8.out.next hb).b; clear hb)
  go_ret
  exact ⟨rfl, HBZ.out⟩

end Go.Proofs.Ytgjikoebneiamaa
