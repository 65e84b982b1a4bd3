/-
  Links, the law's reference: the place whose mark should be read.
-/
import Derived.Test.YtgjikoebneiamaaLRefAns
import Derived.Test.YtgjikoebneiamaaLBars
import Derived.Test.YtgjikoebneiamaaLNextM
import Derived.Test.YtgjikoebneiamaaLWorks
import Derived.Test.YtgjikoebneiamaaLProof

namespace Go.Proofs.Ytgjikoebneiamaa
open Go.RowKit Go.Shelf Go.Maps

/-- The mark at a place in a past. -/
def markOf (C : Chain) (k : Nat) (x : List Int) : Int × Int := (barOf C k x, smithOf C k x)
/-- The marks at a place in some truths, that of the last one first. -/
def marksL (C : Chain) (k : Nat) (l : List (List Int)) : List (Int × Int) := (l.map (markOf C k)).reverse
theorem marksL_snoc (C : Chain) (k : Nat) (l : List (List Int)) (x : List Int) : marksL C k (l ++ [x]) = markOf C k x :: marksL C k l := by simp [marksL]
theorem marksL_len (C : Chain) (k : Nat) (l : List (List Int)) : (marksL C k l).length = l.length := by simp [marksL]
/-- The first number at which a function is least, of the first k. -/
def amin (g : Nat → Nat) : Nat → Nat
  | 0 => 0
  | k + 1 => if g k < g (amin g k) then k else amin g k
theorem amin_lt (g : Nat → Nat) : ∀ k, amin g (k + 1) ≤ k
  | 0 => by simp [amin]
  | k + 1 => by
    have := amin_lt g k
    unfold amin
    split <;> omega
theorem most_cons (m : Int × Int) (ms : List (Int × Int)) : mostM (m :: ms) = max (mostM ms) (cntM m (m :: ms)) := by
  symm
  obtain ⟨h1, h2⟩ := most_spec ms
  refine most_is (fun k hk => ?_) ?_
  · by_cases e : k = m
    · subst e; omega
    · rcases List.mem_cons.1 hk with rfl | hk
      · exact absurd rfl e
      · have := h1 k hk
        have h3 : cntM k (m :: ms) = cntM k ms := by simp only [cntM]; rw [if_neg (fun q => e q.symm)]; rfl
        omega
  · by_cases e : mostM ms ≤ cntM m (m :: ms)
    · exact .inr ⟨m, .head _, by omega⟩
    · rcases h2 with h2 | ⟨k, hk, h2⟩
      · omega
      · refine .inr ⟨k, .tail _ hk, ?_⟩
        have h3 : cntM k ms ≤ cntM k (m :: ms) := by simp only [cntM]; omega
        by_cases q : k = m
        · subst q; omega
        · have h4 : cntM k (m :: ms) = cntM k ms := by simp only [cntM]; rw [if_neg (fun z => q z.symm)]; rfl
          omega
theorem most_le (ms : List (Int × Int)) : mostM ms ≤ ms.length := by
  obtain ⟨_, h2⟩ := most_spec ms
  rcases h2 with h2 | ⟨k, _, h2⟩
  · omega
  · rw [h2]; exact cntM_le k ms
/-- Best and least under way. -/
def BestI (g : Nat → Nat) (k : Nat) (b l : Int) : Prop := (k = 0 ∧ b = -1 ∧ l = 0) ∨ (0 < k ∧ b = (amin g k : Nat) ∧ l = (g (amin g k) : Nat))
theorem BestI.step {g : Nat → Nat} {k : Nat} {b l : Int} (h : BestI g k b l) : (b < 0 ∨ ((g k : Nat) : Int) < l → BestI g (k + 1) (k : Nat) (g k : Nat)) ∧ (¬ b < 0 → ¬ ((g k : Nat) : Int) < l → BestI g (k + 1) b l) := by
  rcases h with ⟨rfl, rfl, rfl⟩ | ⟨hk, rfl, rfl⟩
  · refine ⟨fun _ => .inr ⟨by omega, ?_⟩, fun h => absurd (by omega) h⟩
    have : amin g 1 = 0 := by simp [amin]
    rw [this]; exact ⟨rfl, rfl⟩
  · refine ⟨fun h => .inr ⟨by omega, ?_⟩, fun _ h => .inr ⟨by omega, ?_⟩⟩
    · have e : amin g (k + 1) = k := by
        unfold amin
        rw [if_pos (by omega)]
      rw [e]; exact ⟨rfl, rfl⟩
    · have e : amin g (k + 1) = amin g k := by
        unfold amin
        rw [if_neg (by omega)]
        cases k with
        | zero => omega
        | succ k => rfl
      rw [e]; exact ⟨rfl, rfl⟩
theorem map_below {w w' : World} {k : TypeId} {R : Value → Option (DataW Unit × List MemPlace)} {b n : Nat} {D : DataW Unit} (h : w.ownsMap Try.prog k R b n D) (hb : Below w.heap.size w w') : w'.ownsMap Try.prog k R b n D :=
  h.kept (row := none) ⟨hb.os, hb.tape, hb.output, hb.size, fun k hk _ => hb.block k hk⟩ (by simp)
/-- How many links there are in the end. -/
def lenN (C : Chain) : Nat := (lenTo C.deeds C.deeds.length).toNat
def nextV (C : Chain) : Int := if knownE C true = 0 ∧ lenN C ≠ 0 then (amin (fun k => mostM (marksL C k (knownL C true))) (lenN C) : Nat) else 0
def nextE (C : Chain) : Int := if knownE C true = 0 then (if lenN C = 0 then 3 else 0) else knownE C true

set_option maxRecDepth 100000 in
set_option maxHeartbeats 16000000 in
theorem rNext_any (v : Value) (C : Chain) (w : World) (hn : C.deeds.length ≤ 40) (hx : ChainAt w.heap.size w v C) :
    Calls Try.prog 43 #[v] w fun e w' => e = .returned (.tuple #[.int .i64 (nextV C), .int .i64 (nextE C)]) ∧ Below w.heap.size w w' := by
  have hmm := @run_makeMap Try.prog
  have hx' := hx
  obtain ⟨a, cap, b, off, a2, cap2, b2, off2, rfl, hm, hm2, hcap, hcapm, HA, HC, HA2, HC2, HI, HI2⟩ := hx.opened
  have HS0 := Lib.hid (LStat.first hx')
  obtain ⟨c0, c1, c2⟩ := HS0.out.cells
  have HDA := Lib.hid (fun h => HA.out h)
  have HDC := HC
  clear hx hx' HA HC HA2 HC2 HI HI2
  have HN40 := Lib.hid hn
  have HKA := Lib.hid (fun k (h : k < (knownL C true).length) => known_at (C := C) (is := true) h)
  have hlen := known_le C true
  by_cases h0 : knownE C true = 0
  · have HKE := Lib.hid h0
    have hV : validB C = true := by
      cases h : validB C
      · simp [knownE, h] at h0
      · rfl
    have hV' := valid_iff.1 hV
    have hle := lenTo_le C.deeds C.deeds.length
    have hl0 : 0 ≤ lenTo C.deeds C.deeds.length := by
      have := (story_ok (ends := []) hV'.deed _ (Nat.le_refl _)).1
      omega
    have hnd := hV'.nd
    obtain ⟨N, hN⟩ : ∃ N, lenN C = N := ⟨_, rfl⟩
    have hN2 : lenTo C.deeds C.deeds.length = (N : Int) := by rw [← hN]; unfold lenN; omega
    have hN12 : N ≤ 12 := by omega
    obtain ⟨TR, hTR⟩ : ∃ TR, knownL C true = TR := ⟨_, rfl⟩
    obtain ⟨T, hT⟩ : ∃ T, TR.length = T := ⟨_, rfl⟩
    obtain ⟨g, hg⟩ : ∃ g : Nat → Nat, (fun k => mostM (marksL C k TR)) = g := ⟨_, rfl⟩
    have HG := Lib.hid (fun k => (congrFun hg k : mostM (marksL C k TR) = g k))
    have HNV := Lib.hid (show nextV C = if N = 0 then 0 else ((amin g N : Nat) : Int) by
      rw [nextV, hN, hTR, hg]
      by_cases h : N = 0
      · rw [if_pos h, if_neg (fun q => q.2 h)]
      · rw [if_neg h, if_pos ⟨h0, h⟩])
    have HNE := Lib.hid (show nextE C = if N = 0 then 3 else 0 by rw [nextE, if_pos h0, hN])
    obtain ⟨RV, hRV⟩ : ∃ RV, nextV C = RV := ⟨_, rfl⟩
    obtain ⟨RE, hRE⟩ : ∃ RE, nextE C = RE := ⟨_, rfl⟩
    rw [hRV, hRE]
    rw [hRV] at HNV
    rw [hRE] at HNE
    have HPL := Lib.hid (fun k : Nat => show (deedsOk C.deeds && placeB C (k : Int)) = decide (k < N) by
      rw [place_is hV, placeB, hN2]
      by_cases h : k < N
      · rw [decide_eq_true h, wB_iff]; omega
      · rw [decide_eq_false h]
        cases hw : wB (k : Int) 0 ((N : Int) - 1)
        · rfl
        · have := wB_iff.1 hw; omega)
    have HOKM := Lib.hid (fun (k : Nat) (h : k < N) (l : List (List Int)) => show OkM (marksL C k l) from fun m hm => by
      simp only [marksL, List.mem_reverse, List.mem_map] at hm
      obtain ⟨x, _, rfl⟩ := hm
      exact ⟨barOf_i64 hV' (by omega) x, smithOf_i64 hV' (by omega) x⟩)
    have HWD := Lib.hid (fun (k : Nat) (h : k < N) (x : List Int) => story_link hV' x (Nat.le_refl _) (j := k) (by have := (story_ok (ends := x) hV'.deed _ (Nat.le_refl _)).1; omega))
    have HSN := Lib.hid (fun (x : List Int) => show (story C.deeds x C.deeds.length).length = N by have := (story_ok (ends := x) hV'.deed _ (Nat.le_refl _)).1; omega)
    rw [hTR] at HKA hlen
    rw [hT] at HKA hlen
    have HTR := Lib.hid hTR
    have HTT := Lib.hid hT
    have HV := Lib.hid hV
    have HV' := Lib.hid hV'
    clear h0 hV hV' hle hl0 hN hN2 hTR hT hg hRV hRE hnd
    go_enter Try.func43, Try.ntmps43
    go_wp2_with fail
    refine (known_any _ true C _ HS0.out.st).mono ?_
    rintro e w1 ⟨q, rfl, hls, hb1⟩
    rw [HTR.out] at hls
    rw [HKE.out]
    obtain ⟨_, _, l2, _⟩ := (show ∃ vs : List Value, vs.length = TR.length ∧ w1.ownsRow w.heap.size 33 1 q TR.length vs ∧ True from by obtain ⟨vs, l1, l2, _⟩ := hls; exact ⟨vs, l1, own_grow0 (W := w1) l2 (by simp), trivial⟩)
    obtain ⟨qA, qc, rfl, _⟩ := own_form l2
    have HLS := Lib.hid (hls.lower (Nat.zero_le _))
    have HS1 := Lib.hid (HS0.out.next hb1)
    rw [HTT.out] at HLS ⊢
    clear l2 hls hb1 c0 c1 c2
    obtain ⟨c0, c1, c2⟩ := HS1.out.cells
    go_wp2_with fail
    go_loopw [6, 7, 8] (fun ob ol oa wr => ∃ (k : Nat) (bB lL : Int), k ≤ N ∧ oa = .int .i64 k ∧ ob = .int .i64 bB ∧ ol = .int .i64 lL ∧ Hid (BestI g k bB lL) ∧ Hid (Below w1.heap.size w1 wr)) (fun _ _ i _ => N - (intOf i).toNat)
    case atStart => exact ⟨0, -1, 0, Nat.zero_le _, rfl, rfl, rfl, .inl ⟨rfl, rfl, rfl⟩, Below.refl _ _⟩
    case round =>
      obtain ⟨k, bB, lL, hk, rfl, rfl, rfl, hbi, hbl⟩ := hrel
      clear c0 c1 c2
      have HSR := Lib.hid (HS1.out.next hbl.out)
      obtain ⟨c0, c1, c2⟩ := HSR.out.cells
      have hk0 : (0 : Int) ≤ (k : Nat) := by omega
      by_cases hlt : k < N
      · have HD := Lib.hid (show (deedsOk C.deeds && placeB C (k : Int)) = true by rw [HPL.out k, decide_eq_true hlt])
        go_wp2_with fail
        refine (IsPlace_40 _ C _ _ HN40.out HSR.out.st).mono ?_
        rintro e w2 ⟨rfl, hb2⟩
        rw [HD.out]
        have HB2 := Lib.hid (hbl.out.trans (hb2.mono hbl.out.size))
        have HS2 := Lib.hid (HS1.out.next HB2.out)
        clear hb2 c0 c1 c2
        go_wp2_with fail
        obtain ⟨w3, hw3⟩ : ∃ w3, w3 = w2.alloc (.map #[] 0) := ⟨_, rfl⟩
        have HM3 := Lib.hid (show w3.ownsMap (H := Unit) Try.prog 111 (plainElem Try.prog 3) w2.heap.size 0 (datM []) by rw [hw3]; exact World.ownsMap_made _ _ _ _)
        have HB3 := Lib.hid (show Below w2.heap.size w2 w3 by rw [hw3]; exact (Below.refl _ _).alloc (Nat.le_refl _) _)
        rw [← hw3]
        clear hw3
        have HS3 := Lib.hid (HS2.out.next HB3.out)
        have hs2 := HB2.out.size
        have hs3 := HB3.out.size
        obtain ⟨c0, c1, c2⟩ := HS3.out.cells
        go_loopw [10, 11] (fun om oi wq => ∃ i : Nat, i ≤ T ∧ oi = .int .i64 i ∧ om = .int .i64 (mostM (marksL C k (TR.take i)) : Nat) ∧ Hid (wq.ownsMap (H := Unit) Try.prog 111 (plainElem Try.prog 3) w2.heap.size i (datM (marksL C k (TR.take i)))) ∧ Hid (Below w2.heap.size w2 wq)) (fun _ i _ => T - (intOf i).toNat)
        case atStart => exact ⟨0, Nat.zero_le _, rfl, rfl, HM3.out, HB3.out⟩
        case round =>
          obtain ⟨i, hi, rfl, rfl, hmap, hbq⟩ := hrel
          clear c0 c1 c2
          have HSQ := Lib.hid (HS2.out.next hbq.out)
          obtain ⟨c0, c1, c2⟩ := HSQ.out.cells
          have hsq := hbq.out.size
          have hi0 : (0 : Int) ≤ (i : Nat) := by omega
          by_cases hil : i < T
          · obtain ⟨lg, lc, _, hq, _, _⟩ := HLS.out.get (i := i) (by rw [HTT.out]; omega)
            injection hq with hq1 hq2 hq3
            clear hq2
            subst hq1 hq3
            obtain ⟨x, hcell, hrow⟩ := (HLS.out.below (HB2.out.trans (hbq.out.mono hs2))).row (i := i) (by rw [HTT.out]; omega)
            obtain ⟨hxl, hxi⟩ := HKA.out i hil
            obtain ⟨xA, xc, rfl, _⟩ := own_form hrow
            rw [hxl] at hcell hrow
            obtain ⟨q, hqe, hqw⟩ := HWD.out k hlt (xnth TR i)
            obtain ⟨j, hj, hjn, hdj⟩ := weld_deed HV'.out hqw
            obtain ⟨d, hd⟩ : ∃ d, dnth (weldL C.deeds) q = d := ⟨_, rfl⟩
            rw [hd] at hdj
            obtain ⟨rfl, hbw⟩ := HDA.out (by omega)
            have HD0 := Lib.hid (show Five w b (off + j * 5) d.what d.at_ d.from_ d.bar d.smith from by have := HDC.out j hjn; rwa [hdj] at this)
            have HMK := Lib.hid (show markOf C k (xnth TR i) = (d.bar, d.smith) by
              have h1 : linkAt C k (xnth TR i) = q := hqe
              simp only [markOf, barOf, smithOf, markD, h1, Int.toNat_natCast, hd])
            have HNX := Lib.hid (show marksL C k (TR.take (i + 1)) = (d.bar, d.smith) :: marksL C k (TR.take i) by
              rw [take_snoc (by rw [HTT.out]; exact hil), marksL_snoc, ← xnth_lt (by rw [HTT.out]; exact hil), HMK.out])
            obtain ⟨ms, hms⟩ : ∃ ms, marksL C k (TR.take i) = ms := ⟨_, rfl⟩
            have hok := HOKM.out k hlt (TR.take i)
            have hokn := HOKM.out k hlt (TR.take (i + 1))
            rw [HNX.out] at hokn
            rw [hms] at hok hokn HNX hmap ⊢
            have hml : ms.length ≤ 4096 := by rw [← hms, marksL_len, List.length_take]; omega
            have hcm := cntM_le (d.bar, d.smith) ms
            have hcm2 := cntM_le (d.bar, d.smith) ((d.bar, d.smith) :: ms)
            have hmm2 := most_le ms
            obtain ⟨M0, hM0⟩ : ∃ M0, mostM ms = M0 := ⟨_, rfl⟩
            rw [hM0] at hmm2 ⊢
            have HM0 := Lib.hid hM0
            clear hM0
            rw [List.length_cons] at hcm2
            have HOK := Lib.hid hok
            have HOKN := Lib.hid hokn
            have HOKD := Lib.hid (hokn _ (.head _))
            have HJ := Lib.hid hj
            have HQE := Lib.hid hqe
            have HQW := Lib.hid hqw
            have HXR := Lib.hid hrow
            have HXL := Lib.hid hxl
            have HXI := Lib.hid hxi
            have hcl := block_lt_of_cell hcell
            have HCE := Lib.hid hcell
            have hi1 : ((i : Nat) : Int) < (T : Int) := by omega
            have hj0 : (0 : Int) ≤ (j : Nat) := by omega
            have hj1 : ((j : Nat) : Int) < (C.deeds.length : Int) := by omega
            clear hqe hqw hj hjn hdj hd hcell hrow hxl hxi hok hokn hms
            go_upto_region 13 with fail
            clear c0 c1 c2
            refine wp_region_facts _ 18 [34, 35, 36, 37, 38, 39, 40, 41, 42, 43, 44, 45, 46, 47, 48, 49, 50, 12] [isV (.pointer (some ⟨w.heap.size, 0, none⟩)), isV (.slice (some ⟨b, off, none⟩) C.deeds.length cap), isV (.agg #[.slice (some ⟨b, off, none⟩) C.deeds.length cap, .slice a2 C.sights.length cap2, .int .i64 C.wrong]), ⟨fun v W => OwnInts W v (weldIx C.deeds C.deeds.length), fun _ _ _ h hb => h.below hb⟩, isV (.agg #[.slice (some ⟨b, off, none⟩) C.deeds.length cap, .slice a2 C.sights.length cap2, .int .i64 C.wrong]), isV (.slice (some ⟨lg, 0, none⟩) T qc), isV (.int .i64 (i : Int)), isV (.pointer (some ⟨lg, i, none⟩)), isV (.slice xA C.deeds.length xc), ⟨fun v W => OwnInts W v (story C.deeds (xnth TR i) C.deeds.length), fun _ _ _ h hb => h.below hb⟩, isV (.int .i64 (k : Int)), ⟨fun v W => ∃ g, v = .pointer (some ⟨g, k, none⟩) ∧ W.cell? ⟨g, k, none⟩ = some (.int .i64 (q : Int)), fun _ _ _ ⟨g, h1, h2⟩ hb => ⟨g, h1, (hb.cell (block_lt_of_cell h2)).trans h2⟩⟩, isV (.int .i64 (q : Int)), ⟨fun v W => ∃ g, v = .pointer (some ⟨g, q, none⟩) ∧ W.cell? ⟨g, q, none⟩ = some (.int .i64 (j : Int)), fun _ _ _ ⟨g, h1, h2⟩ hb => ⟨g, h1, (hb.cell (block_lt_of_cell h2)).trans h2⟩⟩, isV (.int .i64 (j : Int)), isV (.pointer (some ⟨b, off + j * 5, none⟩)), isV (.agg #[.int .i64 d.what, .int .i64 d.at_, .int .i64 d.from_, .int .i64 d.bar, .int .i64 d.smith]), ⟨fun v W => ∃ m, v = .pointer (some ⟨m, 0, none⟩) ∧ wr.heap.size ≤ m ∧ W.heap[m]? = some (.cells #[.int .i64 0, .int .i64 0, .int .i64 0, .int .i64 0, .int .i64 0] 55), fun _ _ _ ⟨m, h1, h2, h3⟩ hb => ⟨m, h1, h2, (hb.block m (heap_lt h3)).trans h3⟩⟩] (by kernel_rfl) (by kernel_rfl) (by kernel_rfl) rfl (by decide) (by decide) (by simp) ?step ?rest
            case step =>
              intro i ac W d hi hd hb hoff hdep
              have hs := HSQ.out.next hb
              obtain ⟨c0, c1, c2⟩ := hs.cells
              have hcell := (hb.cell hcl).trans HCE.out
              obtain ⟨d0, d1, d2, d3, d4⟩ := HD0.out.below hs.b hbw
              have hi2 : i = 0 ∨ i = 1 ∨ i = 2 ∨ i = 3 ∨ i = 4 ∨ i = 5 ∨ i = 6 ∨ i = 7 ∨ i = 8 ∨ i = 9 ∨ i = 10 ∨ i = 11 ∨ i = 12 ∨ i = 13 ∨ i = 14 ∨ i = 15 ∨ i = 16 ∨ i = 17 := by omega
              rcases hi2 with rfl | rfl | rfl | rfl | rfl | rfl | rfl | rfl | rfl | rfl | rfl | rfl | rfl | rfl | rfl | rfl | rfl | rfl
              · obtain rfl : 34 = d := by simpa using hd
                have q1 : ac.tmps[1]?.getD undef = .pointer (some ⟨w.heap.size, 0, none⟩) := (eval_tmp _ _).symm.trans <| (hoff 1 (by decide)).trans rfl
                refine fact_value rfl rfl rfl (v := .pointer (some ⟨w.heap.size, 0, none⟩)) (W' := W) ?_ (Below.refl _ _) rfl
                simp only [execOp]
                go_simp
              · obtain rfl : 35 = d := by simpa using hd
                have q34 : ac.tmps[34]?.getD undef = .pointer (some ⟨w.heap.size, 0, none⟩) := (eval_tmp _ _).symm.trans (hdep 0 34 rfl rfl)
                refine fact_value rfl rfl rfl (v := .slice (some ⟨b, off, none⟩) C.deeds.length cap) (W' := W) ?_ (Below.refl _ _) rfl
                simp only [execOp]
                go_simp
              · obtain rfl : 36 = d := by simpa using hd
                have q1 : ac.tmps[1]?.getD undef = .pointer (some ⟨w.heap.size, 0, none⟩) := (eval_tmp _ _).symm.trans <| (hoff 1 (by decide)).trans rfl
                refine fact_value rfl rfl rfl (v := .agg #[.slice (some ⟨b, off, none⟩) C.deeds.length cap, .slice a2 C.sights.length cap2, .int .i64 C.wrong]) (W' := W) ?_ (Below.refl _ _) rfl
                simp only [execOp]
                go_simp
              · obtain rfl : 37 = d := by simpa using hd
                have q36 : ac.tmps[36]?.getD undef = .agg #[.slice (some ⟨b, off, none⟩) C.deeds.length cap, .slice a2 C.sights.length cap2, .int .i64 C.wrong] := (eval_tmp _ _).symm.trans (hdep 2 36 rfl rfl)
                refine fact_call rfl rfl rfl (f := 54) (args := #[.agg #[.slice (some ⟨b, off, none⟩) C.deeds.length cap, .slice a2 C.sights.length cap2, .int .i64 C.wrong]]) ?_ ?_
                · simp only [execOp]
                  go_simp
                · refine (Welds_o _ C W HN40.out hs.st).mono ?_
                  rintro e W' ⟨q, rfl, hls, hbk⟩
                  exact ⟨q, rfl, hbk, hls⟩
              · obtain rfl : 38 = d := by simpa using hd
                have q1 : ac.tmps[1]?.getD undef = .pointer (some ⟨w.heap.size, 0, none⟩) := (eval_tmp _ _).symm.trans <| (hoff 1 (by decide)).trans rfl
                refine fact_value rfl rfl rfl (v := .agg #[.slice (some ⟨b, off, none⟩) C.deeds.length cap, .slice a2 C.sights.length cap2, .int .i64 C.wrong]) (W' := W) ?_ (Below.refl _ _) rfl
                simp only [execOp]
                go_simp
              · obtain rfl : 39 = d := by simpa using hd
                have q4 : ac.tmps[4]?.getD undef = .slice (some ⟨lg, 0, none⟩) T qc := (eval_tmp _ _).symm.trans <| (hoff 4 (by decide)).trans rfl
                refine fact_value rfl rfl rfl (v := .slice (some ⟨lg, 0, none⟩) T qc) (W' := W) ?_ (Below.refl _ _) rfl
                simp only [execOp]
                go_simp
              · obtain rfl : 40 = d := by simpa using hd
                have q11 : ac.tmps[11]?.getD undef = .int .i64 (i : Int) := (eval_tmp _ _).symm.trans <| (hoff 11 (by decide)).trans rfl
                refine fact_value rfl rfl rfl (v := .int .i64 (i : Int)) (W' := W) ?_ (Below.refl _ _) rfl
                simp only [execOp]
                go_simp
              · obtain rfl : 41 = d := by simpa using hd
                have q39 : ac.tmps[39]?.getD undef = .slice (some ⟨lg, 0, none⟩) T qc := (eval_tmp _ _).symm.trans (hdep 5 39 rfl rfl)
                have q40 : ac.tmps[40]?.getD undef = .int .i64 (i : Int) := (eval_tmp _ _).symm.trans (hdep 6 40 rfl rfl)
                refine fact_value rfl rfl rfl (v := .pointer (some ⟨lg, i, none⟩)) (W' := W) ?_ (Below.refl _ _) rfl
                simp only [execOp]
                go_simp
              · obtain rfl : 42 = d := by simpa using hd
                have q41 : ac.tmps[41]?.getD undef = .pointer (some ⟨lg, i, none⟩) := (eval_tmp _ _).symm.trans (hdep 7 41 rfl rfl)
                refine fact_value rfl rfl rfl (v := .slice xA C.deeds.length xc) (W' := W) ?_ (Below.refl _ _) rfl
                simp only [execOp]
                go_simp
              · obtain rfl : 43 = d := by simpa using hd
                have q38 : ac.tmps[38]?.getD undef = .agg #[.slice (some ⟨b, off, none⟩) C.deeds.length cap, .slice a2 C.sights.length cap2, .int .i64 C.wrong] := (eval_tmp _ _).symm.trans (hdep 4 38 rfl rfl)
                have q42 : ac.tmps[42]?.getD undef = .slice xA C.deeds.length xc := (eval_tmp _ _).symm.trans (hdep 8 42 rfl rfl)
                refine fact_call rfl rfl rfl (f := 47) (args := #[.agg #[.slice (some ⟨b, off, none⟩) C.deeds.length cap, .slice a2 C.sights.length cap2, .int .i64 C.wrong], .slice xA C.deeds.length xc]) ?_ ?_
                · simp only [execOp]
                  go_simp
                · refine (Now_any _ _ C (xnth TR i) W HV.out HXL.out hs.st ((HXR.out.below hb).ints HXI.out)).mono ?_
                  rintro e W' ⟨q, rfl, hls, hbk⟩
                  exact ⟨q, rfl, hbk, hls⟩
              · obtain rfl : 44 = d := by simpa using hd
                have q8 : ac.tmps[8]?.getD undef = .int .i64 (k : Int) := (eval_tmp _ _).symm.trans <| (hoff 8 (by decide)).trans rfl
                refine fact_value rfl rfl rfl (v := .int .i64 (k : Int)) (W' := W) ?_ (Below.refl _ _) rfl
                simp only [execOp]
                go_simp
              · obtain rfl : 45 = d := by simpa using hd
                have q43 : OwnInts W (ac.tmps[43]?.getD undef) (story C.deeds (xnth TR i) C.deeds.length) := eval_tmp ac _ ▸ hdep 9 43 rfl rfl
                have q44 : ac.tmps[44]?.getD undef = .int .i64 (k : Int) := (eval_tmp _ _).symm.trans (hdep 10 44 rfl rfl)
                obtain ⟨g, c, hq, hcell⟩ := q43.at ((show k < (story C.deeds (xnth TR i) C.deeds.length).length by rw [HSN.out]; exact hlt))
                rw [HQE.out] at hcell
                have i1 : (0 : Int) ≤ (k : Nat) := by omega
                have i2 : ((k : Nat) : Int) < ((story C.deeds (xnth TR i) C.deeds.length).length : Int) := by have := (show k < (story C.deeds (xnth TR i) C.deeds.length).length by rw [HSN.out]; exact hlt); omega
                refine fact_value rfl rfl rfl (v := .pointer (some ⟨g, k, none⟩)) (W' := W) ?_ (Below.refl _ _) ⟨g, rfl, hcell⟩
                simp only [execOp]
                go_simp
              · obtain rfl : 46 = d := by simpa using hd
                have q45 : ∃ g, (ac.tmps[45]?.getD undef) = .pointer (some ⟨g, k, none⟩) ∧ W.cell? ⟨g, k, none⟩ = some (.int .i64 (q : Int)) := eval_tmp ac _ ▸ hdep 11 45 rfl rfl
                obtain ⟨g, hq, hcell⟩ := q45
                refine fact_value rfl rfl rfl (v := .int .i64 (q : Int)) (W' := W) ?_ (Below.refl _ _) rfl
                simp only [execOp]
                go_simp
              · obtain rfl : 47 = d := by simpa using hd
                have q37 : OwnInts W (ac.tmps[37]?.getD undef) (weldIx C.deeds C.deeds.length) := eval_tmp ac _ ▸ hdep 3 37 rfl rfl
                have q46 : ac.tmps[46]?.getD undef = .int .i64 (q : Int) := (eval_tmp _ _).symm.trans (hdep 12 46 rfl rfl)
                obtain ⟨g, c, hq, hcell⟩ := q37.at ((show q < (weldIx C.deeds C.deeds.length).length by rw [weldIx_len]; exact HQW.out))
                rw [HJ.out] at hcell
                have i1 : (0 : Int) ≤ (q : Nat) := by omega
                have i2 : ((q : Nat) : Int) < ((weldIx C.deeds C.deeds.length).length : Int) := by have := (show q < (weldIx C.deeds C.deeds.length).length by rw [weldIx_len]; exact HQW.out); omega
                refine fact_value rfl rfl rfl (v := .pointer (some ⟨g, q, none⟩)) (W' := W) ?_ (Below.refl _ _) ⟨g, rfl, hcell⟩
                simp only [execOp]
                go_simp
              · obtain rfl : 48 = d := by simpa using hd
                have q47 : ∃ g, (ac.tmps[47]?.getD undef) = .pointer (some ⟨g, q, none⟩) ∧ W.cell? ⟨g, q, none⟩ = some (.int .i64 (j : Int)) := eval_tmp ac _ ▸ hdep 13 47 rfl rfl
                obtain ⟨g, hq, hcell⟩ := q47
                refine fact_value rfl rfl rfl (v := .int .i64 (j : Int)) (W' := W) ?_ (Below.refl _ _) rfl
                simp only [execOp]
                go_simp
              · obtain rfl : 49 = d := by simpa using hd
                have q35 : ac.tmps[35]?.getD undef = .slice (some ⟨b, off, none⟩) C.deeds.length cap := (eval_tmp _ _).symm.trans (hdep 1 35 rfl rfl)
                have q48 : ac.tmps[48]?.getD undef = .int .i64 (j : Int) := (eval_tmp _ _).symm.trans (hdep 14 48 rfl rfl)
                refine fact_value rfl rfl rfl (v := .pointer (some ⟨b, off + j * 5, none⟩)) (W' := W) ?_ (Below.refl _ _) rfl
                simp only [execOp]
                go_simp
              · obtain rfl : 50 = d := by simpa using hd
                have q49 : ac.tmps[49]?.getD undef = .pointer (some ⟨b, off + j * 5, none⟩) := (eval_tmp _ _).symm.trans (hdep 15 49 rfl rfl)
                refine fact_value rfl rfl rfl (v := .agg #[.int .i64 d.what, .int .i64 d.at_, .int .i64 d.from_, .int .i64 d.bar, .int .i64 d.smith]) (W' := W) ?_ (Below.refl _ _) rfl
                simp only [execOp]
                go_simp
              · obtain rfl : 12 = d := by simpa using hd
                refine fact_value rfl rfl rfl (v := .pointer (some ⟨W.heap.size, 0, none⟩)) (W' := W.alloc (.cells #[.int .i64 0, .int .i64 0, .int .i64 0, .int .i64 0, .int .i64 0] 55)) ?_ ((Below.refl _ _).alloc (Nat.le_refl _) _) ⟨_, rfl, by have := hb.size; omega, heap_new _ _⟩
                simp only [execOp]
                go_simp
            case rest =>
              intro vs V2 hvl hbx hval
              obtain ⟨y0, y1, y2, y3, y4, y5, y6, y7, y8, y9, y10, y11, y12, y13, y14, y15, y16, y17, rfl⟩ : ∃ y0 y1 y2 y3 y4 y5 y6 y7 y8 y9 y10 y11 y12 y13 y14 y15 y16 y17, vs = [y0, y1, y2, y3, y4, y5, y6, y7, y8, y9, y10, y11, y12, y13, y14, y15, y16, y17] := by
                match vs, hvl with
                | [y0, y1, y2, y3, y4, y5, y6, y7, y8, y9, y10, y11, y12, y13, y14, y15, y16, y17], _ => exact ⟨y0, y1, y2, y3, y4, y5, y6, y7, y8, y9, y10, y11, y12, y13, y14, y15, y16, y17, rfl⟩
              obtain rfl : y0 = .pointer (some ⟨w.heap.size, 0, none⟩) := by obtain ⟨u, e, h⟩ := hval 0 (by omega); have e2 : some y0 = some u := e; injection e2 with e2; subst e2; exact h
              obtain rfl : y1 = .slice (some ⟨b, off, none⟩) C.deeds.length cap := by obtain ⟨u, e, h⟩ := hval 1 (by omega); have e2 : some y1 = some u := e; injection e2 with e2; subst e2; exact h
              obtain rfl : y2 = .agg #[.slice (some ⟨b, off, none⟩) C.deeds.length cap, .slice a2 C.sights.length cap2, .int .i64 C.wrong] := by obtain ⟨u, e, h⟩ := hval 2 (by omega); have e2 : some y2 = some u := e; injection e2 with e2; subst e2; exact h
              have k3 : OwnInts V2 y3 (weldIx C.deeds C.deeds.length) := by obtain ⟨u, e, h⟩ := hval 3 (by omega); have e2 : some y3 = some u := e; injection e2 with e2; subst e2; exact h
              obtain rfl : y4 = .agg #[.slice (some ⟨b, off, none⟩) C.deeds.length cap, .slice a2 C.sights.length cap2, .int .i64 C.wrong] := by obtain ⟨u, e, h⟩ := hval 4 (by omega); have e2 : some y4 = some u := e; injection e2 with e2; subst e2; exact h
              obtain rfl : y5 = .slice (some ⟨lg, 0, none⟩) T qc := by obtain ⟨u, e, h⟩ := hval 5 (by omega); have e2 : some y5 = some u := e; injection e2 with e2; subst e2; exact h
              obtain rfl : y6 = .int .i64 (i : Int) := by obtain ⟨u, e, h⟩ := hval 6 (by omega); have e2 : some y6 = some u := e; injection e2 with e2; subst e2; exact h
              obtain rfl : y7 = .pointer (some ⟨lg, i, none⟩) := by obtain ⟨u, e, h⟩ := hval 7 (by omega); have e2 : some y7 = some u := e; injection e2 with e2; subst e2; exact h
              obtain rfl : y8 = .slice xA C.deeds.length xc := by obtain ⟨u, e, h⟩ := hval 8 (by omega); have e2 : some y8 = some u := e; injection e2 with e2; subst e2; exact h
              have k9 : OwnInts V2 y9 (story C.deeds (xnth TR i) C.deeds.length) := by obtain ⟨u, e, h⟩ := hval 9 (by omega); have e2 : some y9 = some u := e; injection e2 with e2; subst e2; exact h
              obtain rfl : y10 = .int .i64 (k : Int) := by obtain ⟨u, e, h⟩ := hval 10 (by omega); have e2 : some y10 = some u := e; injection e2 with e2; subst e2; exact h
              have k11 : ∃ g, y11 = .pointer (some ⟨g, k, none⟩) ∧ V2.cell? ⟨g, k, none⟩ = some (.int .i64 (q : Int)) := by obtain ⟨u, e, h⟩ := hval 11 (by omega); have e2 : some y11 = some u := e; injection e2 with e2; subst e2; exact h
              obtain rfl : y12 = .int .i64 (q : Int) := by obtain ⟨u, e, h⟩ := hval 12 (by omega); have e2 : some y12 = some u := e; injection e2 with e2; subst e2; exact h
              have k13 : ∃ g, y13 = .pointer (some ⟨g, q, none⟩) ∧ V2.cell? ⟨g, q, none⟩ = some (.int .i64 (j : Int)) := by obtain ⟨u, e, h⟩ := hval 13 (by omega); have e2 : some y13 = some u := e; injection e2 with e2; subst e2; exact h
              obtain rfl : y14 = .int .i64 (j : Int) := by obtain ⟨u, e, h⟩ := hval 14 (by omega); have e2 : some y14 = some u := e; injection e2 with e2; subst e2; exact h
              obtain rfl : y15 = .pointer (some ⟨b, off + j * 5, none⟩) := by obtain ⟨u, e, h⟩ := hval 15 (by omega); have e2 : some y15 = some u := e; injection e2 with e2; subst e2; exact h
              obtain rfl : y16 = .agg #[.int .i64 d.what, .int .i64 d.at_, .int .i64 d.from_, .int .i64 d.bar, .int .i64 d.smith] := by obtain ⟨u, e, h⟩ := hval 16 (by omega); have e2 : some y16 = some u := e; injection e2 with e2; subst e2; exact h
              have k17 : ∃ m, y17 = .pointer (some ⟨m, 0, none⟩) ∧ wr.heap.size ≤ m ∧ V2.heap[m]? = some (.cells #[.int .i64 0, .int .i64 0, .int .i64 0, .int .i64 0, .int .i64 0] 55) := by obtain ⟨u, e, h⟩ := hval 17 (by omega); have e2 : some y17 = some u := e; injection e2 with e2; subst e2; exact h
              clear hval hvl
              obtain ⟨m, rfl, hml2, hmb⟩ := k17
              obtain ⟨⟨m0, m1, m2, m3, m4⟩, mf⟩ := box5f_of hmb
              have mf0 := mf 0
              have mf1 := mf 1
              have mf2 := mf 2
              have mf3 := mf 3
              have mf4 := mf 4
              have HMB0 := Lib.hid hmb
              have HBX := Lib.hid hbx
              have hsx := hbx.size
              clear k3 k9 k11 k13 hbx mf hmb
              simp only [putL, Act.put, List.drop, List.setIfInBounds_toArray, List.set_cons_zero, List.set_cons_succ]
              go_upto_region 14 with fail
              obtain ⟨V3, hV3⟩ : ∃ V3, V3 = put5 V2 m (.int .i64 d.what) (.int .i64 d.at_) (.int .i64 d.from_) (.int .i64 d.bar) (.int .i64 d.smith) := ⟨_, rfl⟩
              have hYm : V3.heap[m]? = some (.cells #[.int .i64 d.what, .int .i64 d.at_, .int .i64 d.from_, .int .i64 d.bar, .int .i64 d.smith] 55) := by rw [hV3]; exact put5_heap HMB0.out
              have hb3 : Below wr.heap.size wr V3 := by rw [hV3]; exact put5_below HBX.out hml2
              unfold put5 at hV3
              rw [← hV3]
              clear hV3 m0 m1 m2 m3 m4 mf0 mf1 mf2 mf3 mf4
              obtain ⟨m0, m1, m2, m3, m4⟩ := box5j hYm
              go_upto_region 15 with fail
              obtain ⟨V4, hV4⟩ : ∃ V4, V4 = V3.alloc (.cells #[.int .i64 d.bar, .int .i64 d.smith] 111) := ⟨_, rfl⟩
              have hb4 : Below wr.heap.size wr V4 := by rw [hV4]; exact hb3.alloc hb3.size _
              have hmk : V4.heap[V3.heap.size]? = some (.cells #[.int .i64 d.bar, .int .i64 d.smith] 111) := by rw [hV4]; exact heap_new _ _
              rw [← hV4]
              have HM4 := Lib.hid (map_below hmap.out hb4)
              have HMK4 := Lib.hid hmk
              have hml4 := heap_lt hmk
              have hs4 := hb4.size
              have hmlt := hmap.out.lt
              have hgap : V3.heap.size ≠ w2.heap.size := by have := hb3.size; omega
              have HB4 := Lib.hid (hbq.out.trans (hb4.mono hsq))
              clear hV4 hb3 hb4 hmk hYm m0 m1 m2 m3 m4
              refine wp_region_factsA _ 2 [56, 57] [isV (.map (some w2.heap.size)), isV (.agg #[.int .i64 d.bar, .int .i64 d.smith])] (by kernel_rfl) (by kernel_rfl) rfl (by decide) (by decide) (by simp) ?step ?rest
              case step =>
                intro i ac W d hi hd hb hoff hdep
                obtain ⟨r0, r1, _, _⟩ := cell2f ((hb.block _ hml4).trans HMK4.out)
                have hi2 : i = 0 ∨ i = 1 := by omega
                rcases hi2 with rfl | rfl
                · obtain rfl : 56 = d := by simpa using hd
                  have q9 : ac.tmps[9]?.getD undef = .map (some w2.heap.size) := (eval_tmp _ _).symm.trans <| (hoff 9 (by decide)).trans rfl
                  refine fact_value rfl rfl rfl (v := .map (some w2.heap.size)) (W' := W) ?_ (Below.refl _ _) rfl
                  simp only [execOp]
                  go_simp
                · obtain rfl : 57 = d := by simpa using hd
                  have q13 : ac.tmps[13]?.getD undef = .pointer (some ⟨V3.heap.size, 0, none⟩) := (eval_tmp _ _).symm.trans <| (hoff 13 (by decide)).trans rfl
                  refine fact_value rfl rfl rfl (v := .agg #[.int .i64 d.bar, .int .i64 d.smith]) (W' := W) ?_ (Below.refl _ _) rfl
                  simp only [execOp]
                  go_simp
              case rest =>
                intro vs W5 hvl hb5 hval
                obtain ⟨u0, u1, rfl⟩ : ∃ u0 u1, vs = [u0, u1] := by
                  match vs, hvl with
                  | [u0, u1], _ => exact ⟨u0, u1, rfl⟩
                obtain rfl : u0 = .map (some w2.heap.size) := by obtain ⟨u, e, h⟩ := hval 0 (by omega); have e2 : some u0 = some u := e; injection e2 with e2; subst e2; exact h
                obtain rfl : u1 = .agg #[.int .i64 d.bar, .int .i64 d.smith] := by obtain ⟨u, e, h⟩ := hval 1 (by omega); have e2 : some u1 = some u := e; injection e2 with e2; subst e2; exact h
                clear hval hvl
                have HB5 := Lib.hid (HB4.out.trans (hb5.mono HB4.out.size))
                have hs5 := hb5.size
                obtain ⟨v0, sv, Wa, Wb, rL0, rL1, rE, rS, hown2, hgr⟩ := incr_runs (c := (cntM (d.bar, d.smith) ms : Nat)) (c1 := (cntM (d.bar, d.smith) ms + 1 : Nat)) rmark_klaw Try.underlying109 Try.underlying3 zero_int (map_below HM4.out hb5) (datM_map ms) (by unfold maxLen; omega) (key_rmark (m := (d.bar, d.smith)) HOKD.out) (datM_at HOKD.out HOK.out) (wf_nat (by omega))
                have hwr : IntKind.i64.wrap (((cntM (d.bar, d.smith) ms : Nat) : Int) + 1) = ((cntM (d.bar, d.smith) ms + 1 : Nat) : Int) := by rw [IntWalk.i64_in _ (by omega)]; omega
                have HMB := Lib.hid (show Wb.heap[V3.heap.size]? = some (.cells #[.int .i64 d.bar, .int .i64 d.smith] 111) from (hgr.block _ (by omega) (by intro h; injection h with h; exact hgap h)).trans ((hb5.block _ hml4).trans HMK4.out))
                have HBB := Lib.hid (show Below w2.heap.size w2 Wb from HB5.out.grown hgr HB5.out.size (fun j hj => by injection hj with hj; omega))
                have HMO := Lib.hid (show Wb.ownsMap (H := Unit) Try.prog 111 (plainElem Try.prog 3) w2.heap.size (i + 1) (datM ((d.bar, d.smith) :: ms)) from hown2)
                simp only [putL, Act.put, List.setIfInBounds_toArray, List.set_cons_zero, List.set_cons_succ]
                refine wpAny_incr (n := 2) (sL := 58) (sA := 59) (sE := 60) (sX := 61) (mo := .tmp 56) (xo := .tmp 57) (t := 109) (mv := .map (some w2.heap.size)) (key := markV (d.bar, d.smith)) (c := (cntM (d.bar, d.smith) ms : Nat)) (c1 := (cntM (d.bar, d.smith) ms + 1 : Nat)) (v0 := v0) (sv := sv) (W1 := Wa) (W2 := Wb) (by kernel_rfl) rfl rfl rfl rfl rfl rfl rfl rfl rfl rfl rfl rfl rfl rfl rfl (by decide) (by simp) ?rL ?rA ?rE ?rX ?rS ?hmo ?hxo ?fin
                case rL =>
                  intro a W h1 h2 hW
                  rcases hW with rfl | rfl
                  · simp [execOp, h1, h2, rL0]
                  · simp [execOp, h1, h2, rL1]
                case rA =>
                  intro a W h1
                  have q58 : a.tmps[58]?.getD undef = .int .i64 ((cntM (d.bar, d.smith) ms : Nat) : Int) := (eval_tmp _ _).symm.trans h1
                  rw [← hwr]
                  simp only [execOp]
                  go_simp
                case rE =>
                  intro a h1 h2
                  simp [execOp, h1, h2, rE]
                case rX =>
                  intro a W h1
                  have q60 : a.tmps[60]?.getD undef = .tuple #[v0, sv] := (eval_tmp _ _).symm.trans h1
                  simp only [execOp]
                  go_simp
                case rS =>
                  intro a h1 h2 h3
                  have rS' := rS
                  push_cast at rS'
                  simp [execOp, h1, h2, h3, rS']
                case hmo => exact fun vs => (putL_off (by decide)).trans rfl
                case hxo => exact fun vs => (putL_off (by decide)).trans rfl
                case fin =>
                  obtain ⟨r0, r1, _, _⟩ := cell2f HMB.out
                  clear rL0 rL1 rE rS hown2 hgr hwr
                  simp only [putL, Act.put, List.setIfInBounds_toArray, List.set_cons_zero, List.set_cons_succ]
                  go_wp2_with (at_lookup; refine wpList_lookup_own_int _ rfl _ _ 109 rfl 111 3 .i64 rmark_law Try.underlying109 Try.underlying3 (zero_int _) w2.heap.size (i + 1) _ rfl HMO.out _ _ rfl (key_rmark (m := (d.bar, d.smith)) HOKD.out) ?_; intro c hat hwc)
                  obtain ⟨r, hr⟩ : ∃ r, cntM (d.bar, d.smith) ((d.bar, d.smith) :: ms) = r := ⟨_, rfl⟩
                  obtain rfl : c = (r : Nat) := by
                    have h := datM_at HOKD.out HOKN.out
                    rw [hat, hr] at h
                    simpa using h
                  have HMX := Lib.hid (show ((mostM (marksL C k (TR.take (i + 1))) : Nat) : Int) = max ((M0 : Nat) : Int) ((r : Nat) : Int) by rw [HNX.out, most_cons, HM0.out, hr]; omega)
                  rw [hr] at hcm2
                  clear hr hat hwc
                  go_wp2
                  exact ⟨⟨i + 1, by omega, by go_num, by rw [HMX.out], by rw [HNX.out]; exact HMO.out, HBB.out⟩, by simp [intOf]; omega⟩
          · obtain rfl : T = i := by omega
            have hall : TR.take T = TR := by rw [List.take_of_length_le (by rw [HTT.out]; exact Nat.le_refl _)]
            rw [hall, HG.out k]
            obtain ⟨G, hG⟩ : ∃ G, g k = G := ⟨_, rfl⟩
            have hst := hbi.out.step
            rw [hG] at hst ⊢
            have HST := Lib.hid hst
            have HBQ := Lib.hid (HB2.out.trans (hbq.out.mono hs2))
            clear hst hG hall hmap
            by_cases c1 : bB < 0
            · go_wp2
              exact ⟨⟨k + 1, (k : Int), (G : Int), by omega, by go_num, rfl, rfl, HST.out.1 (.inl c1), HBQ.out⟩, by simp [intOf]; omega⟩
            · by_cases c2 : ((G : Nat) : Int) < lL
              · go_wp2
                exact ⟨⟨k + 1, (k : Int), (G : Int), by omega, by go_num, rfl, rfl, HST.out.1 (.inr c2), HBQ.out⟩, by simp [intOf]; omega⟩
              · go_wp2
                exact ⟨⟨k + 1, bB, lL, by omega, by go_num, rfl, rfl, HST.out.2 c1 c2, HBQ.out⟩, by simp [intOf]; omega⟩
      · obtain rfl : N = k := by omega
        have HD := Lib.hid (show (deedsOk C.deeds && placeB C (N : Int)) = false by rw [HPL.out N, decide_eq_false (Nat.lt_irrefl _)])
        go_wp2_with fail
        refine (IsPlace_40 _ C _ _ HN40.out HSR.out.st).mono ?_
        rintro e w2 ⟨rfl, hb2⟩
        rw [HD.out]
        have HB2 := Lib.hid (HSR.out.next hb2).b
        have hb := hbi.out
        clear hb2 c0 c1 c2
        rcases hb with ⟨hz, rfl, rfl⟩ | ⟨hz, rfl, rfl⟩
        · obtain rfl : (0 : Int) = RV := by rw [HNV.out, if_pos hz]
          obtain rfl : (3 : Int) = RE := by rw [HNE.out, if_pos hz]
          clear hz
          go_wp2
          go_ret2
          exact ⟨rfl, HB2.out⟩
        · obtain ⟨A, hA⟩ : ∃ A, amin g N = A := ⟨_, rfl⟩
          rw [hA]
          obtain rfl : ((A : Nat) : Int) = RV := by rw [HNV.out, if_neg (by omega), hA]
          obtain rfl : (0 : Int) = RE := by rw [HNE.out, if_neg (by omega)]
          have hA0 : ¬ ((A : Nat) : Int) < 0 := by omega
          clear hz hA
          go_wp2
          go_ret2
          exact ⟨rfl, HB2.out⟩
  · have HV0 := Lib.hid (show nextV C = 0 by rw [nextV, if_neg (fun h => h0 h.1)])
    have HE0 := Lib.hid (show nextE C = knownE C true by rw [nextE, if_neg h0])
    rw [HV0.out, HE0.out]
    obtain ⟨E, hE⟩ : ∃ E, knownE C true = E := ⟨_, rfl⟩
    rw [hE] at h0 ⊢
    have HE := Lib.hid hE
    have he0 : (E != 0) = true := by simpa using h0
    have he1 : (E == 0) = false := by simpa using h0
    clear hE h0
    go_enter Try.func43, Try.ntmps43
    go_wp2_with fail
    refine (known_any _ true C _ HS0.out.st).mono ?_
    rintro e w1 ⟨q, rfl, hls, hb1⟩
    rw [HE.out]
    have HB := Lib.hid (HS0.out.next hb1).b
    obtain ⟨vs, l1, l2, l3⟩ := hls
    obtain ⟨qA, qc, rfl, _⟩ := own_form l2
    clear hb1 l1 l2 l3 c0 c1 c2
    go_wp2
    go_ret2
    exact ⟨rfl, HB.out⟩

end Go.Proofs.Ytgjikoebneiamaa
