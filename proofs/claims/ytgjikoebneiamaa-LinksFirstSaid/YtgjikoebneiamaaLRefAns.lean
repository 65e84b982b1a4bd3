/-
  Links, the law's reference: the answers of all truths.
-/
import Derived.Test.YtgjikoebneiamaaLKnown
import Derived.Test.YtgjikoebneiamaaLSorted
namespace Go.Proofs.Ytgjikoebneiamaa
open Go.RowKit Go.Shelf

theorem known_is {C : Chain} {is is' : Bool} (h : validB C = true → is = is') : knownL C is = knownL C is' ∧ knownE C is = knownE C is' := by
  cases hv : validB C
  · simp [knownL, knownE, hv]
  · rw [h hv]; exact ⟨rfl, rfl⟩
theorem place_is {C : Chain} {at_ : Int} (h : validB C = true) : (deedsOk C.deeds && placeB C at_) = placeB C at_ := by
  simp only [validB, Bool.and_eq_true] at h
  rw [h.1.2]; rfl
theorem known_valid {C : Chain} {is : Bool} (h : 0 < (knownL C is).length) : validB C = true ∧ is = true := by
  unfold knownL at h
  split at h
  · assumption
  · simp at h
theorem known_at {C : Chain} {is : Bool} {k : Nat} (h : k < (knownL C is).length) : (xnth (knownL C is) k).length = C.deeds.length ∧ (∀ x ∈ xnth (knownL C is) k, I64 x) := by
  obtain ⟨hv, hi⟩ := known_valid (C := C) (is := is) (by omega)
  have hV := valid_iff.1 hv
  have e : knownL C is = truthsR C := if_pos ⟨hv, hi⟩
  rw [e] at h ⊢
  have hm : xnth (truthsR C) k ∈ truthsR C := by rw [xnth_lt h]; exact List.getElem_mem h
  have hm2 := (List.mem_filter.1 hm).1
  exact ⟨choice_len ((mem_choicesL hV.from_le).1 hm2), choice_i64 (valid_froms hV) hm2⟩
theorem known_le (C : Chain) (is : Bool) : (knownL C is).length ≤ 4096 := by
  unfold knownL
  split
  · rename_i h
    have hV := valid_iff.1 h.1
    have h1 := choicesFrom_len C hV.nd []
    rw [choicesFrom_nil] at h1
    exact Nat.le_trans (List.length_filter_le _ _) h1
  · simp
theorem Sorted_to {v : Value} {xs : List Int} {lo hi : Int} {n : Nat} {w : World} (h : lo + n - 1 = hi) (hx : IntsAt w.heap.size w v xs) (hlo : -1 ≤ lo) (hlo2 : lo ≤ 100) (hn : n ≤ 200) :
    Calls Try.prog 81 #[v, .int .i64 lo, .int .i64 hi] w fun e w' => ∃ q, e = .returned q ∧ OwnInts w' q (selTo xs lo n) ∧ Below w.heap.size w w' := h ▸ Sorted_any v xs lo n w hx hlo hlo2 hn
theorem nth_i64 {xs : List Int} (h : ∀ x ∈ xs, I64 x) (i : Nat) : I64 (nth xs i) := by
  by_cases hi : i < xs.length
  · exact h _ (nth_mem hi)
  · have : nth xs i = 0 := by simp [nth, List.getElem?_eq_none (Nat.le_of_not_lt hi)]
    rw [this]; unfold I64; omega
theorem map_take_snoc {xs : List (List Int)} {f : List Int → Int} {k : Nat} (h : k < xs.length) : (xs.take (k + 1)).map f = (xs.take k).map f ++ [f (xnth xs k)] := by
  rw [take_snoc h, List.map_append, xnth_lt h]; rfl

set_option maxRecDepth 100000 in
set_option maxHeartbeats 8000000 in
theorem rWho_any (v : Value) (C : Chain) (at_ : Int) (w : World) (hn : C.deeds.length ≤ 40) (hx : ChainAt w.heap.size w v C) :
    Calls Try.prog 25 #[v, .int .i64 at_] w fun e w' => ∃ q, e = .returned (.tuple #[q, .int .i64 (knownE C (placeB C at_))]) ∧ OwnInts w' q (selTo ((knownL C (placeB C at_)).map (linkAt C at_.toNat)) 0 13) ∧ Below w.heap.size w w' := by
  obtain ⟨i0, hiT, hz0, hz1, hz2⟩ := info_parts Try_infoInt
  obtain ⟨is, his⟩ : ∃ is, (deedsOk C.deeds && placeB C at_) = is := ⟨_, rfl⟩
  have HKE := Lib.hid (known_is (C := C) (is := is) (is' := placeB C at_) (fun h => by rw [← his, place_is h]))
  have HIS := Lib.hid his
  rw [← HKE.out.1, ← HKE.out.2]
  clear his
  have hlen := known_le C is
  have HAT0 := Lib.hid (fun k (h : k < (knownL C is).length) => known_at (C := C) (is := is) h)
  have HKV := Lib.hid (fun (h : 0 < (knownL C is).length) => known_valid (C := C) (is := is) h)
  obtain ⟨TR, hTR⟩ : ∃ TR, knownL C is = TR := ⟨_, rfl⟩
  obtain ⟨E, hE⟩ : ∃ E, knownE C is = E := ⟨_, rfl⟩
  obtain ⟨T, hT⟩ : ∃ T, TR.length = T := ⟨_, rfl⟩
  rw [hTR] at hlen HAT0 HKV
  rw [hT] at hlen HAT0 HKV
  rw [hTR, hE]
  have HTR := Lib.hid hTR
  have HE := Lib.hid hE
  have HTT := Lib.hid hT
  clear hTR hE hT
  have hx' := hx
  obtain ⟨a, cap, b, off, a2, cap2, b2, off2, rfl, hm, hm2, hcap, hcapm, HA, HC, HA2, HC2, HI, HI2⟩ := hx.opened
  have HS0 := Lib.hid (LStat.first hx')
  obtain ⟨c0, c1, c2⟩ := HS0.out.cells
  clear hx hx' HA HC HA2 HC2 HI HI2
  go_enter Try.func25, Try.ntmps25
  go_upto_region 1 with fail
  clear c0 c1 c2
  refine wp_region_facts _ 10 [11, 12, 13, 14, 15, 10, 16, 17, 6, 7] [isV (.agg #[.slice a C.deeds.length cap, .slice a2 C.sights.length cap2, .int .i64 C.wrong]), isV (.agg #[.slice a C.deeds.length cap, .slice a2 C.sights.length cap2, .int .i64 C.wrong]), isV (.int .i64 at_), isV (.bool is), ⟨fun v W => ∃ q, v = .tuple #[q, .int .i64 E] ∧ ListsAt W 0 q TR, fun _ _ _ ⟨q, h1, h2⟩ hb => ⟨q, h1, h2.below hb⟩⟩, ⟨fun v W => ∃ q, v = .tuple #[q, .int .i64 E] ∧ ListsAt W 0 q TR, fun _ _ _ ⟨q, h1, h2⟩ hb => ⟨q, h1, h2.below hb⟩⟩, ⟨fun v W => ListsAt W 0 v TR, fun _ _ _ h hb => h.below hb⟩, isV (.int .i64 E), ⟨fun v W => ListsAt W 0 v TR, fun _ _ _ h hb => h.below hb⟩, isV (.int .i64 E)] (by kernel_rfl) (by kernel_rfl) (by kernel_rfl) rfl (by decide) (by decide) (by simp) ?step ?rest
  case step =>
    intro i ac W d hi hd hb hoff hdep
    have hs := HS0.out.next hb
    obtain ⟨c0, c1, c2⟩ := hs.cells
    have hi2 : i = 0 ∨ i = 1 ∨ i = 2 ∨ i = 3 ∨ i = 4 ∨ i = 5 ∨ i = 6 ∨ i = 7 ∨ i = 8 ∨ i = 9 := by omega
    rcases hi2 with rfl | rfl | rfl | rfl | rfl | rfl | rfl | rfl | rfl | rfl
    · obtain rfl : 11 = d := by simpa using hd
      have q2 : ac.tmps[2]?.getD undef = .pointer (some ⟨w.heap.size, 0, none⟩) := (eval_tmp _ _).symm.trans <| (hoff 2 (by decide)).trans rfl
      refine fact_value rfl rfl rfl (v := .agg #[.slice a C.deeds.length cap, .slice a2 C.sights.length cap2, .int .i64 C.wrong]) (W' := W) ?_ (Below.refl _ _) rfl
      simp only [execOp]
      go_simp
    · obtain rfl : 12 = d := by simpa using hd
      have q2 : ac.tmps[2]?.getD undef = .pointer (some ⟨w.heap.size, 0, none⟩) := (eval_tmp _ _).symm.trans <| (hoff 2 (by decide)).trans rfl
      refine fact_value rfl rfl rfl (v := .agg #[.slice a C.deeds.length cap, .slice a2 C.sights.length cap2, .int .i64 C.wrong]) (W' := W) ?_ (Below.refl _ _) rfl
      simp only [execOp]
      go_simp
    · obtain rfl : 13 = d := by simpa using hd
      have q1 : ac.tmps[1]?.getD undef = .int .i64 at_ := (eval_tmp _ _).symm.trans <| (hoff 1 (by decide)).trans rfl
      refine fact_value rfl rfl rfl (v := .int .i64 at_) (W' := W) ?_ (Below.refl _ _) rfl
      simp only [execOp]
      go_simp
    · obtain rfl : 14 = d := by simpa using hd
      have q12 : ac.tmps[12]?.getD undef = .agg #[.slice a C.deeds.length cap, .slice a2 C.sights.length cap2, .int .i64 C.wrong] := (eval_tmp _ _).symm.trans (hdep 1 12 rfl rfl)
      have q13 : ac.tmps[13]?.getD undef = .int .i64 at_ := (eval_tmp _ _).symm.trans (hdep 2 13 rfl rfl)
      refine fact_call rfl rfl rfl (f := 53) (args := #[.agg #[.slice a C.deeds.length cap, .slice a2 C.sights.length cap2, .int .i64 C.wrong], .int .i64 at_]) ?_ ?_
      · simp only [execOp]
        go_simp
      · refine (IsPlace_40 _ C at_ W hn hs.st).mono ?_
        rintro e W' ⟨rfl, hbk⟩
        exact ⟨_, rfl, hbk, by rw [HIS.out]; rfl⟩
    · obtain rfl : 15 = d := by simpa using hd
      have q11 : ac.tmps[11]?.getD undef = .agg #[.slice a C.deeds.length cap, .slice a2 C.sights.length cap2, .int .i64 C.wrong] := (eval_tmp _ _).symm.trans (hdep 0 11 rfl rfl)
      have q14 : ac.tmps[14]?.getD undef = .bool is := (eval_tmp _ _).symm.trans (hdep 3 14 rfl rfl)
      refine fact_call rfl rfl rfl (f := 76) (args := #[.agg #[.slice a C.deeds.length cap, .slice a2 C.sights.length cap2, .int .i64 C.wrong], .bool is]) ?_ ?_
      · simp only [execOp]
        go_simp
      · refine (known_any _ is C W hs.st).mono ?_
        rintro e W' ⟨q, rfl, hls, hbk⟩
        rw [HTR.out] at hls
        exact ⟨.tuple #[q, .int .i64 E], by rw [HE.out], hbk, q, rfl, hls.lower (Nat.zero_le _)⟩
    · obtain rfl : 10 = d := by simpa using hd
      have q15 : ∃ q, (ac.tmps[15]?.getD undef) = .tuple #[q, .int .i64 E] ∧ ListsAt W 0 q TR := eval_tmp ac _ ▸ hdep 4 15 rfl rfl
      refine fact_value rfl rfl rfl (v := _) (W' := W) ?_ (Below.refl _ _) q15
      simp only [execOp]
      go_simp
    · obtain rfl : 16 = d := by simpa using hd
      have q10 : ∃ q, (ac.tmps[10]?.getD undef) = .tuple #[q, .int .i64 E] ∧ ListsAt W 0 q TR := eval_tmp ac _ ▸ hdep 5 10 rfl rfl
      obtain ⟨q, h1, h2⟩ := q10
      refine fact_value rfl rfl rfl (v := q) (W' := W) ?_ (Below.refl _ _) h2
      simp only [execOp]
      go_simp
    · obtain rfl : 17 = d := by simpa using hd
      have q10 : ∃ q, (ac.tmps[10]?.getD undef) = .tuple #[q, .int .i64 E] ∧ ListsAt W 0 q TR := eval_tmp ac _ ▸ hdep 5 10 rfl rfl
      obtain ⟨q, h1, h2⟩ := q10
      refine fact_value rfl rfl rfl (v := .int .i64 E) (W' := W) ?_ (Below.refl _ _) rfl
      simp only [execOp]
      go_simp
    · obtain rfl : 6 = d := by simpa using hd
      have q16 : ListsAt W 0 (ac.tmps[16]?.getD undef) TR := eval_tmp ac _ ▸ hdep 6 16 rfl rfl
      refine fact_value rfl rfl rfl (v := _) (W' := W) ?_ (Below.refl _ _) q16
      simp only [execOp]
      go_simp
    · obtain rfl : 7 = d := by simpa using hd
      have q17 : ac.tmps[17]?.getD undef = .int .i64 E := (eval_tmp _ _).symm.trans (hdep 7 17 rfl rfl)
      refine fact_value rfl rfl rfl (v := .int .i64 E) (W' := W) ?_ (Below.refl _ _) rfl
      simp only [execOp]
      go_simp
  case rest =>
    intro vs w1 hvl hb1 hval
    obtain ⟨y0, y1, y2, y3, y4, y5, y6, y7, y8, y9, rfl⟩ : ∃ y0 y1 y2 y3 y4 y5 y6 y7 y8 y9, vs = [y0, y1, y2, y3, y4, y5, y6, y7, y8, y9] := by
      match vs, hvl with
      | [y0, y1, y2, y3, y4, y5, y6, y7, y8, y9], _ => exact ⟨y0, y1, y2, y3, y4, y5, y6, y7, y8, y9, rfl⟩
    obtain rfl : y0 = .agg #[.slice a C.deeds.length cap, .slice a2 C.sights.length cap2, .int .i64 C.wrong] := by obtain ⟨u, e, h⟩ := hval 0 (by omega); have e2 : some y0 = some u := e; injection e2 with e2; subst e2; exact h
    obtain rfl : y1 = .agg #[.slice a C.deeds.length cap, .slice a2 C.sights.length cap2, .int .i64 C.wrong] := by obtain ⟨u, e, h⟩ := hval 1 (by omega); have e2 : some y1 = some u := e; injection e2 with e2; subst e2; exact h
    obtain rfl : y2 = .int .i64 at_ := by obtain ⟨u, e, h⟩ := hval 2 (by omega); have e2 : some y2 = some u := e; injection e2 with e2; subst e2; exact h
    obtain rfl : y3 = .bool is := by obtain ⟨u, e, h⟩ := hval 3 (by omega); have e2 : some y3 = some u := e; injection e2 with e2; subst e2; exact h
    have k4 : ∃ q, y4 = .tuple #[q, .int .i64 E] ∧ ListsAt w1 0 q TR := by obtain ⟨u, e, h⟩ := hval 4 (by omega); have e2 : some y4 = some u := e; injection e2 with e2; subst e2; exact h
    have k5 : ∃ q, y5 = .tuple #[q, .int .i64 E] ∧ ListsAt w1 0 q TR := by obtain ⟨u, e, h⟩ := hval 5 (by omega); have e2 : some y5 = some u := e; injection e2 with e2; subst e2; exact h
    have k6 : ListsAt w1 0 y6 TR := by obtain ⟨u, e, h⟩ := hval 6 (by omega); have e2 : some y6 = some u := e; injection e2 with e2; subst e2; exact h
    obtain rfl : y7 = .int .i64 E := by obtain ⟨u, e, h⟩ := hval 7 (by omega); have e2 : some y7 = some u := e; injection e2 with e2; subst e2; exact h
    have k8 : ListsAt w1 0 y8 TR := by obtain ⟨u, e, h⟩ := hval 8 (by omega); have e2 : some y8 = some u := e; injection e2 with e2; subst e2; exact h
    obtain rfl : y9 = .int .i64 E := by obtain ⟨u, e, h⟩ := hval 9 (by omega); have e2 : some y9 = some u := e; injection e2 with e2; subst e2; exact h
    clear hval hvl
    have HS1 := Lib.hid (HS0.out.next hb1)
    obtain ⟨q4, rfl, _⟩ := k4
    obtain ⟨q5, hq5, _⟩ := k5
    subst hq5
    obtain ⟨_, _, l2, _⟩ := (show ∃ vs : List Value, vs.length = TR.length ∧ w1.ownsRow 0 33 1 y8 TR.length vs ∧ True from by obtain ⟨vs, l1, l2, _⟩ := k8; exact ⟨vs, l1, l2, trivial⟩)
    obtain ⟨qA, qc, rfl, _⟩ := own_form l2
    have HLS := Lib.hid k8
    rw [HTT.out] at HLS ⊢
    have hsz1 := hb1.size
    clear l2 k6 k8 hb1
    simp only [putL, Act.put, List.drop, List.setIfInBounds_toArray, List.set_cons_zero, List.set_cons_succ]
    obtain ⟨c0, c1, c2⟩ := HS1.out.cells
    go_wp2_with fail
    go_loopw [8, 9] (fun o i wr => ∃ k : Nat, k ≤ T ∧ i = .int .i64 k ∧ Hid (wr.ownsRow w1.heap.size 3 1 o k (((TR.take k).map (linkAt C at_.toNat)).map (Value.int .i64))) ∧ Hid (Below w1.heap.size w1 wr)) (fun _ i _ => T - (intOf i).toNat)
    case atStart => exact ⟨0, Nat.zero_le _, rfl, World.ownsRow_nil _ _ _ _, Below.refl _ _⟩
    case round =>
      obtain ⟨k, hk, rfl, hown, hbl⟩ := hrel
      obtain ⟨oA, oc, rfl, _⟩ := own_form hown.out
      clear c0 c1 c2
      have HSR := Lib.hid (HS1.out.next hbl.out)
      obtain ⟨c0, c1, c2⟩ := HSR.out.cells
      by_cases hlt : k < T
      · obtain ⟨hv, hi⟩ := HKV.out (by omega)
        have hV' := valid_iff.1 hv
        have hpl : placeB C at_ = true := by have := HIS.out; rw [hi, Bool.and_eq_true] at this; exact this.2
        have hpw := wB_iff.1 hpl
        obtain ⟨p, hp⟩ : ∃ p, at_.toNat = p := ⟨_, rfl⟩
        have HPZ := Lib.hid (show at_ = (p : Int) by omega)
        obtain ⟨lg, lc, _, hq, _, _⟩ := HLS.out.get (i := k) (by rw [HTT.out]; omega)
        injection hq with hq1 hq2 hq3
        clear hq2
        subst hq1 hq3
        obtain ⟨x, hcell, hrow⟩ := (HLS.out.below hbl.out).row (i := k) (by rw [HTT.out]; omega)
        obtain ⟨hxl, hxi⟩ := HAT0.out k hlt
        obtain ⟨xA, xc, rfl, _⟩ := own_form hrow
        rw [hxl] at hcell hrow
        have hsl := (story_ok (ends := xnth TR k) hV'.deed C.deeds.length (Nat.le_refl _)).1
        have HSL := Lib.hid (show p < (story C.deeds (xnth TR k) C.deeds.length).length by omega)
        obtain ⟨y, hy⟩ : ∃ y, nth (story C.deeds (xnth TR k) C.deeds.length) p = y := ⟨_, rfl⟩
        have HY := Lib.hid hy
        have HV := Lib.hid hv
        have HXR := Lib.hid hrow
        have HXL := Lib.hid hxl
        have HXI := Lib.hid hxi
        have hcl := block_lt_of_cell hcell
        have HCE := Lib.hid hcell
        have hk0 : (0 : Int) ≤ (k : Nat) := by omega
        have hk1 : ((k : Nat) : Int) < (T : Int) := by omega
        have HN := Lib.hid (show (TR.take (k + 1)).map (linkAt C at_.toNat) = (TR.take k).map (linkAt C at_.toNat) ++ [y] by rw [map_take_snoc (by rw [HTT.out]; exact hlt), hp, ← hy]; rfl)
        obtain ⟨Xk, hXk⟩ : ∃ Xk, ((TR.take k).map (linkAt C at_.toNat)).map (Value.int .i64) = Xk := ⟨_, rfl⟩
        have HXk := Lib.hid hXk
        have HOW := Lib.hid (show wr.ownsRow w1.heap.size 3 1 (.slice oA k oc) k Xk from hXk ▸ hown.out)
        clear hv hi hV' hpl hpw hp hcell hrow hxl hxi hsl hy hXk hown
        go_upto_region 6 with fail
        clear c0 c1 c2
        refine wp_region_facts _ 11 [24, 25, 26, 27, 28, 29, 30, 31, 32, 33, 34] [isV (.slice oA k oc), isV (.agg #[.slice a C.deeds.length cap, .slice a2 C.sights.length cap2, .int .i64 C.wrong]), isV (.slice (some ⟨lg, 0, none⟩) T qc), isV (.int .i64 (k : Int)), isV (.pointer (some ⟨lg, k, none⟩)), isV (.slice xA C.deeds.length xc), ⟨fun v W => OwnInts W v (story C.deeds (xnth TR k) C.deeds.length), fun _ _ _ h hb => h.below hb⟩, isV (.int .i64 at_), ⟨fun v W => ∃ g, v = .pointer (some ⟨g, p, none⟩) ∧ W.cell? ⟨g, p, none⟩ = some (.int .i64 (y : Int)), fun _ _ _ ⟨g, h1, h2⟩ hb => ⟨g, h1, (hb.cell (block_lt_of_cell h2)).trans h2⟩⟩, isV (.int .i64 (y : Int)), ⟨fun v W => ∃ A, v = .slice (some ⟨A, 0, none⟩) 1 1 ∧ W.heap[A]? = some (.cells #[.int .i64 y] 3), fun _ _ _ ⟨A, h1, h2⟩ hb => ⟨A, h1, (hb.block A (heap_lt h2)).trans h2⟩⟩] (by kernel_rfl) (by kernel_rfl) (by kernel_rfl) rfl (by decide) (by decide) (by simp) ?step ?rest
        case step =>
          intro i ac W d hi hd hb hoff hdep
          have hs := HSR.out.next hb
          obtain ⟨c0, c1, c2⟩ := hs.cells
          have hcell := (hb.cell hcl).trans HCE.out
          have hi2 : i = 0 ∨ i = 1 ∨ i = 2 ∨ i = 3 ∨ i = 4 ∨ i = 5 ∨ i = 6 ∨ i = 7 ∨ i = 8 ∨ i = 9 ∨ i = 10 := by omega
          rcases hi2 with rfl | rfl | rfl | rfl | rfl | rfl | rfl | rfl | rfl | rfl | rfl
          · obtain rfl : 24 = d := by simpa using hd
            have q8 : ac.tmps[8]?.getD undef = .slice oA k oc := (eval_tmp _ _).symm.trans <| (hoff 8 (by decide)).trans rfl
            refine fact_value rfl rfl rfl (v := .slice oA k oc) (W' := W) ?_ (Below.refl _ _) rfl
            simp only [execOp]
            go_simp
          · obtain rfl : 25 = d := by simpa using hd
            have q2 : ac.tmps[2]?.getD undef = .pointer (some ⟨w.heap.size, 0, none⟩) := (eval_tmp _ _).symm.trans <| (hoff 2 (by decide)).trans rfl
            refine fact_value rfl rfl rfl (v := .agg #[.slice a C.deeds.length cap, .slice a2 C.sights.length cap2, .int .i64 C.wrong]) (W' := W) ?_ (Below.refl _ _) rfl
            simp only [execOp]
            go_simp
          · obtain rfl : 26 = d := by simpa using hd
            have q6 : ac.tmps[6]?.getD undef = .slice (some ⟨lg, 0, none⟩) T qc := (eval_tmp _ _).symm.trans <| (hoff 6 (by decide)).trans rfl
            refine fact_value rfl rfl rfl (v := .slice (some ⟨lg, 0, none⟩) T qc) (W' := W) ?_ (Below.refl _ _) rfl
            simp only [execOp]
            go_simp
          · obtain rfl : 27 = d := by simpa using hd
            have q9 : ac.tmps[9]?.getD undef = .int .i64 (k : Int) := (eval_tmp _ _).symm.trans <| (hoff 9 (by decide)).trans rfl
            refine fact_value rfl rfl rfl (v := .int .i64 (k : Int)) (W' := W) ?_ (Below.refl _ _) rfl
            simp only [execOp]
            go_simp
          · obtain rfl : 28 = d := by simpa using hd
            have q26 : ac.tmps[26]?.getD undef = .slice (some ⟨lg, 0, none⟩) T qc := (eval_tmp _ _).symm.trans (hdep 2 26 rfl rfl)
            have q27 : ac.tmps[27]?.getD undef = .int .i64 (k : Int) := (eval_tmp _ _).symm.trans (hdep 3 27 rfl rfl)
            refine fact_value rfl rfl rfl (v := .pointer (some ⟨lg, k, none⟩)) (W' := W) ?_ (Below.refl _ _) rfl
            simp only [execOp]
            go_simp
          · obtain rfl : 29 = d := by simpa using hd
            have q28 : ac.tmps[28]?.getD undef = .pointer (some ⟨lg, k, none⟩) := (eval_tmp _ _).symm.trans (hdep 4 28 rfl rfl)
            refine fact_value rfl rfl rfl (v := .slice xA C.deeds.length xc) (W' := W) ?_ (Below.refl _ _) rfl
            simp only [execOp]
            go_simp
          · obtain rfl : 30 = d := by simpa using hd
            have q25 : ac.tmps[25]?.getD undef = .agg #[.slice a C.deeds.length cap, .slice a2 C.sights.length cap2, .int .i64 C.wrong] := (eval_tmp _ _).symm.trans (hdep 1 25 rfl rfl)
            have q29 : ac.tmps[29]?.getD undef = .slice xA C.deeds.length xc := (eval_tmp _ _).symm.trans (hdep 5 29 rfl rfl)
            refine fact_call rfl rfl rfl (f := 47) (args := #[.agg #[.slice a C.deeds.length cap, .slice a2 C.sights.length cap2, .int .i64 C.wrong], .slice xA C.deeds.length xc]) ?_ ?_
            · simp only [execOp]
              go_simp
            · refine (Now_any _ _ C (xnth TR k) W HV.out HXL.out hs.st ((HXR.out.below hb).ints HXI.out)).mono ?_
              rintro e W' ⟨q, rfl, hls, hbk⟩
              exact ⟨q, rfl, hbk, hls⟩
          · obtain rfl : 31 = d := by simpa using hd
            have q1 : ac.tmps[1]?.getD undef = .int .i64 at_ := (eval_tmp _ _).symm.trans <| (hoff 1 (by decide)).trans rfl
            refine fact_value rfl rfl rfl (v := .int .i64 at_) (W' := W) ?_ (Below.refl _ _) rfl
            simp only [execOp]
            go_simp
          · obtain rfl : 32 = d := by simpa using hd
            have q30 : OwnInts W (ac.tmps[30]?.getD undef) (story C.deeds (xnth TR k) C.deeds.length) := eval_tmp ac _ ▸ hdep 6 30 rfl rfl
            have q31 : ac.tmps[31]?.getD undef = .int .i64 at_ := (eval_tmp _ _).symm.trans (hdep 7 31 rfl rfl)
            rw [HPZ.out] at q31
            obtain ⟨g, c, hq, hcell⟩ := q30.at (HSL.out)
            rw [HY.out] at hcell
            have i1 : (0 : Int) ≤ (p : Nat) := by omega
            have i2 : ((p : Nat) : Int) < ((story C.deeds (xnth TR k) C.deeds.length).length : Int) := by have := HSL.out; omega
            refine fact_value rfl rfl rfl (v := .pointer (some ⟨g, p, none⟩)) (W' := W) ?_ (Below.refl _ _) ⟨g, rfl, hcell⟩
            simp only [execOp]
            go_simp
          · obtain rfl : 33 = d := by simpa using hd
            have q32 : ∃ g, (ac.tmps[32]?.getD undef) = .pointer (some ⟨g, p, none⟩) ∧ W.cell? ⟨g, p, none⟩ = some (.int .i64 (y : Int)) := eval_tmp ac _ ▸ hdep 8 32 rfl rfl
            obtain ⟨g, hq, hcell⟩ := q32
            refine fact_value rfl rfl rfl (v := .int .i64 (y : Int)) (W' := W) ?_ (Below.refl _ _) rfl
            simp only [execOp]
            go_simp
          · obtain rfl : 34 = d := by simpa using hd
            have q33 : ac.tmps[33]?.getD undef = .int .i64 (y : Int) := (eval_tmp _ _).symm.trans (hdep 9 33 rfl rfl)
            refine fact_value rfl rfl rfl (v := .slice (some ⟨W.heap.size, 0, none⟩) 1 1) (W' := W.alloc (.cells #[.int .i64 y] 3)) ?_ ((Below.refl _ _).alloc (Nat.le_refl _) _) ⟨_, rfl, heap_new _ _⟩
            simp only [execOp]
            go_simp
        case rest =>
          intro vs W2 hvl hbx hval
          obtain ⟨z0, z1, z2, z3, z4, z5, z6, z7, z8, z9, z10, rfl⟩ : ∃ z0 z1 z2 z3 z4 z5 z6 z7 z8 z9 z10, vs = [z0, z1, z2, z3, z4, z5, z6, z7, z8, z9, z10] := by
            match vs, hvl with
            | [z0, z1, z2, z3, z4, z5, z6, z7, z8, z9, z10], _ => exact ⟨z0, z1, z2, z3, z4, z5, z6, z7, z8, z9, z10, rfl⟩
          obtain rfl : z0 = .slice oA k oc := by obtain ⟨u, e, h⟩ := hval 0 (by omega); have e2 : some z0 = some u := e; injection e2 with e2; subst e2; exact h
          obtain rfl : z1 = .agg #[.slice a C.deeds.length cap, .slice a2 C.sights.length cap2, .int .i64 C.wrong] := by obtain ⟨u, e, h⟩ := hval 1 (by omega); have e2 : some z1 = some u := e; injection e2 with e2; subst e2; exact h
          obtain rfl : z2 = .slice (some ⟨lg, 0, none⟩) T qc := by obtain ⟨u, e, h⟩ := hval 2 (by omega); have e2 : some z2 = some u := e; injection e2 with e2; subst e2; exact h
          obtain rfl : z3 = .int .i64 (k : Int) := by obtain ⟨u, e, h⟩ := hval 3 (by omega); have e2 : some z3 = some u := e; injection e2 with e2; subst e2; exact h
          obtain rfl : z4 = .pointer (some ⟨lg, k, none⟩) := by obtain ⟨u, e, h⟩ := hval 4 (by omega); have e2 : some z4 = some u := e; injection e2 with e2; subst e2; exact h
          obtain rfl : z5 = .slice xA C.deeds.length xc := by obtain ⟨u, e, h⟩ := hval 5 (by omega); have e2 : some z5 = some u := e; injection e2 with e2; subst e2; exact h
          have k6 : OwnInts W2 z6 (story C.deeds (xnth TR k) C.deeds.length) := by obtain ⟨u, e, h⟩ := hval 6 (by omega); have e2 : some z6 = some u := e; injection e2 with e2; subst e2; exact h
          obtain rfl : z7 = .int .i64 at_ := by obtain ⟨u, e, h⟩ := hval 7 (by omega); have e2 : some z7 = some u := e; injection e2 with e2; subst e2; exact h
          have k8 : ∃ g, z8 = .pointer (some ⟨g, p, none⟩) ∧ W2.cell? ⟨g, p, none⟩ = some (.int .i64 (y : Int)) := by obtain ⟨u, e, h⟩ := hval 8 (by omega); have e2 : some z8 = some u := e; injection e2 with e2; subst e2; exact h
          obtain rfl : z9 = .int .i64 (y : Int) := by obtain ⟨u, e, h⟩ := hval 9 (by omega); have e2 : some z9 = some u := e; injection e2 with e2; subst e2; exact h
          have k10 : ∃ A, z10 = .slice (some ⟨A, 0, none⟩) 1 1 ∧ W2.heap[A]? = some (.cells #[.int .i64 y] 3) := by obtain ⟨u, e, h⟩ := hval 10 (by omega); have e2 : some z10 = some u := e; injection e2 with e2; subst e2; exact h
          clear hval hvl
          obtain ⟨A, rfl, hA⟩ := k10
          have HA := Lib.hid hA
          have HBX := Lib.hid hbx
          have hsr := hbl.out.size
          have hsx := hbx.size
          clear k6 k8 hA hbx
          simp only [putL, Act.put, List.drop, List.setIfInBounds_toArray, List.set_cons_zero, List.set_cons_succ]
          go_wp2_with (at_builtin; refine wpList_append_own _ rfl (.tmp 24) (.tmp 34) 33 rfl w1.heap.size 3 i0 (.int .i64 0) 1 8 Try.underlying33 hiT hz0 hz1 hz2 rfl (by decide) (.slice oA k oc) k _ rfl (own_below HOW.out HBX.out) ⟨A, 0, none⟩ 1 1 [.int .i64 y] rfl rfl ?f1 ?f2 ?f3 ?f4 ?f5 ?_)
          case f1 => exact fun j u hj => by have h1 := World.news_of_block (fr := (0, 0)) HA.out j u hj; rwa [add_plain0, Nat.zero_add] at h1
          case f2 => simp [Value.oneCell']
          case f3 => unfold maxLen; omega
          case f4 => omega
          case f5 => omega
          intro v' w5 hown' hgrow _
          have HO := Lib.hid hown'
          have HF := Lib.hid ((hbl.out.trans (HBX.out.mono hsr)).grown hgrow (by omega) (fun j e => (HOW.out.lt j e).1))
          clear hown' hgrow
          go_wp2
          exact ⟨⟨k + 1, by omega, by go_num, by rw [HN.out, List.map_append, HXk.out]; exact HO.out, HF.out⟩, by simp [intOf]; omega⟩
      · obtain rfl : T = k := by omega
        have HALL := Lib.hid (show (TR.take T).map (linkAt C at_.toNat) = TR.map (linkAt C at_.toNat) by rw [List.take_of_length_le (by rw [HTT.out]; exact Nat.le_refl _)])
        have HI64 := Lib.hid (show ∀ z ∈ TR.map (linkAt C at_.toNat), I64 z from fun z hz => by
          obtain ⟨e, he, rfl⟩ := List.mem_map.1 hz
          have hT0 : 0 < T := by have := List.length_pos_of_mem he; have := HTT.out; omega
          exact nth_i64 (story_i64 (valid_iff.1 (HKV.out hT0).1) e (Nat.le_refl _)) _)
        have HOI := Lib.hid (show IntsAt wr.heap.size wr (.slice oA T oc) (TR.map (linkAt C at_.toNat)) from ints_of_own (base := w1.heap.size) (by rw [← HALL.out]; have := hown.out; rwa [show ((TR.take T).map (linkAt C at_.toNat)).length = T by rw [HALL.out, List.length_map]; exact HTT.out]) HI64.out)
        go_wp2_with fail
        refine (Sorted_to (n := 13) (by rfl) HOI.out (by omega) (by omega) (by omega)).mono ?_
        rintro e w6 ⟨q, rfl, hq, hb6⟩
        have HQ := Lib.hid hq
        have HB6 := Lib.hid ((HSR.out.next hb6).b)
        clear hq hb6 c0 c1 c2
        go_wp2
        go_ret2
        exact ⟨q, rfl, HQ.out, HB6.out⟩

end Go.Proofs.Ytgjikoebneiamaa
