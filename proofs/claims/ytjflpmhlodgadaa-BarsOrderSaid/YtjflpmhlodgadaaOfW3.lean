/-
  Walks: the reference's Strange.
-/
import Derived.Test.YtjflpmhlodgadaaOfW2
namespace Go.Proofs.Ytjflpmhlodgadaa
open Go.RowKit Go.Sort

/-- Whether a piece's mark is wrong in the first j truths. -/
def wrTo (S : Store) (l : List (List Int)) (p : Nat) : Nat → Bool
  | 0 => true
  | j + 1 => wrTo S l p j && wrongAt S p (nth (xnth l j) p).toNat
theorem wrTo_iff {S : Store} {l : List (List Int)} {p : Nat} : ∀ {j : Nat}, wrTo S l p j = true ↔ ∀ i, i < j → wrongAt S p (nth (xnth l i) p).toNat = true
  | 0 => by simp [wrTo]
  | j + 1 => by
    simp only [wrTo, Bool.and_eq_true, wrTo_iff (j := j)]
    constructor
    · rintro ⟨h1, h2⟩ i hi
      by_cases e : i = j
      · subst e; exact h2
      · exact h1 i (by omega)
    · intro h
      exact ⟨fun i hi => h i (by omega), h j (by omega)⟩
theorem strF_to {S : Store} {l : List (List Int)} {p : Nat} (hp : p < S.pieces.length) : strF S l p = wrTo S l p l.length := by
  cases hw : wrTo S l p l.length
  · cases hf : strF S l p
    · rfl
    · simp only [strF, Bool.and_eq_true, List.all_eq_true] at hf
      have := wrTo_iff.2 (fun i (hi : i < l.length) => hf.2 _ (xnth_mem hi))
      rw [this] at hw; cases hw
  · simp only [strF, Bool.and_eq_true, decide_eq_true_eq, List.all_eq_true]
    refine ⟨hp, fun x hx => ?_⟩
    obtain ⟨i, hi, rfl⟩ := mem_xnth.1 hx
    exact wrTo_iff.1 hw i hi
theorem strS_to {S : Store} (hV : Valid S) (hne : (truthsL S).length ≠ 0) : strS S = numsTo (strF S (truthsL S)) S.pieces.length := by
  have h := numsTo_stop (f := strF S (truthsL S)) (m := S.pieces.length) (fun j hj => strF_out hj) (8 - S.pieces.length)
  rw [Nat.add_sub_cancel' hV.np] at h
  rw [strS, if_neg hne, h]

set_option maxRecDepth 100000 in
set_option maxHeartbeats 8000000 in
theorem rStrange_err (v : Value) (S : Store) (er : Int) (w : World) (hx : StoreAt w.heap.size w v S) (her : (er == 0) = false)
    (ht : ∀ w, StoreAt w.heap.size w v S → Calls Try.prog 75 #[v, .bool true] w (GaveListsX [] er w)) :
    Calls Try.prog 49 #[v] w fun e w' => e = .returned (.tuple #[.slice none 0 0, .int .i64 er]) ∧ Below w.heap.size w w' := by
  obtain ⟨a, cap1, b1, off, a2, cap2, b2, off2, rfl, hm, hm2, HA, HC, HA2, HC2⟩ := hx.opened
  have hs := Stat.first hx
  obtain ⟨c0, c1, c2, c3⟩ := box4_of hs.blk
  have HS0 := Lib.hid hs
  have HT := Lib.hid ht
  clear hs hx ht HA HC HA2 HC2
  go_enter Try.func49, Try.ntmps49
  go_wp2_with fail
  refine ((HT.out _ HS0.out.st).mono fun _ _ h => h.nil).mono ?_
  rintro e w1 ⟨rfl, hb⟩
  have HB := Lib.hid (HS0.out.next hb).b
  clear hb c0 c1 c2 c3
  go_wp2
  go_ret2
  exact ⟨rfl, HB.out⟩

set_option maxRecDepth 100000 in
set_option maxHeartbeats 8000000 in
theorem rStrange_any (v : Value) (S : Store) (w : World) (hx : StoreAt w.heap.size w v S) (hV : Valid S) (hne : (truthsL S).length ≠ 0) :
    Calls Try.prog 49 #[v] w (GaveIntsE (strS S) 0 w) := by
  obtain ⟨a, cap1, b1, off, a2, cap2, b2, off2, rfl, hm, hm2, HA, HC, HA2, HC2⟩ := hx.opened
  obtain ⟨i0, hi, hz0, hz1, hz2⟩ := info_parts Try_infoInt
  have hs := Stat.first hx
  obtain ⟨c0, c1, c2, c3⟩ := box4_of hs.blk
  have HS0 := Lib.hid hs
  have HV := Lib.hid hV
  have hnp := hV.np
  have hlen : (truthsL S).length ≤ 1679616 := sawL_len hV _
  have HST0 := Lib.hid (strS_to hV hne)
  obtain ⟨l, hl⟩ : ∃ l, l = truthsL S := ⟨_, rfl⟩
  have HOK := Lib.hid (show ∀ x ∈ l, OkBars S x ∧ x.length = S.pieces.length from by rw [hl]; exact fun x h => truths_ok h)
  rw [← hl] at hlen hne HST0
  have HT := Lib.hid (fun w (h : StoreAt w.heap.size w (.agg #[.slice a S.bars.length cap1, .int .i64 S.kerf, .slice a2 S.pieces.length cap2, .int .i64 S.wrong]) S) => show Calls Try.prog 75 #[_, .bool true] w (GaveListsE l 0 w) from by
    have h := truths_any' _ S w h hV
    rw [← hl, errN_pos hne] at h
    exact h)
  clear hs hx hl hV hne HA HC HA2 HC2
  go_enter Try.func49, Try.ntmps49
  go_wp2_with fail
  refine (HT.out _ HS0.out.st).mono ?_
  rintro e w2 ⟨u, rfl, hu, hb⟩
  obtain ⟨us, u1, u2, u3⟩ := hu
  obtain ⟨uA, ucap, rfl, _⟩ := own_form u2
  have HS2 := Lib.hid (HS0.out.next hb)
  have N2 := Lib.hid u2
  have N3 := Lib.hid u3
  clear hb u1 u2 u3 c0 c1 c2 c3
  go_wp2
  go_loopw [6, 7] (fun out b wr => ∃ k : Nat, k ≤ S.pieces.length ∧ b = .int .i64 k ∧ Hid (wr.ownsRow w2.heap.size 3 1 out (numsTo (strF S l) k).length ((numsTo (strF S l) k).map (Value.int .i64))) ∧ Hid (Below w2.heap.size w2 wr)) (fun _ b _ => S.pieces.length - (intOf b).toNat)
  case atStart => exact ⟨0, Nat.zero_le _, rfl, World.ownsRow_nil _ _ _ _, Below.refl _ _⟩
  case round =>
    obtain ⟨k, hk, rfl, hown, hbr⟩ := hrel
    obtain ⟨oA, ocap, rfl, _⟩ := own_form hown.out
    have hst := HS2.out.next hbr.out
    obtain ⟨c0, c1, c2, c3⟩ := box4_of hst.blk
    have HST := Lib.hid hst
    clear hst
    by_cases hlt : k < S.pieces.length
    · have hk0 : (0 : Int) ≤ (k : Int) := by omega
      have hk1 : (k : Int) < (S.pieces.length : Int) := by omega
      go_wp2
      clear c0 c1 c2 c3 HST
      go_loopw [8, 9] (fun wv i wi => ∃ j : Nat, j ≤ l.length ∧ i = .int .i64 j ∧ wv = .bool (wrTo S l k j) ∧ Hid (wi.ownsRow w2.heap.size 3 1 (.slice oA (numsTo (strF S l) k).length ocap) (numsTo (strF S l) k).length ((numsTo (strF S l) k).map (Value.int .i64))) ∧ Hid (Below w2.heap.size w2 wi)) (fun _ i _ => l.length - (intOf i).toNat)
      case atStart => exact ⟨0, Nat.zero_le _, rfl, rfl, hown, hbr⟩
      case round =>
        clear hown hbr
        obtain ⟨j, hj, rfl, rfl, hown, hbr⟩ := hrel
        have hst := HS2.out.next hbr.out
        obtain ⟨c0, c1, c2, c3⟩ := box4_of hst.blk
        have HST := Lib.hid hst
        clear hst
        by_cases hjl : j < l.length
        · have hj0 : (0 : Int) ≤ (j : Int) := by omega
          have hj1 : (j : Int) < (l.length : Int) := by omega
          obtain ⟨g, cap, hv, _, hgl⟩ := N2.out.form (by omega)
          cases hv
          obtain ⟨x, hx1, hx2⟩ := N3.out j hjl
          obtain ⟨xA, xcap, rfl, _⟩ := own_form hx2
          have hc := ((own_below N2.out hbr.out).cellAt j (by omega)).trans hx1
          have HXM := Lib.hid (HOK.out _ (xnth_mem hjl))
          have hxi : IntsAt wr.heap.size wr (.slice xA (xnth l j).length xcap) (xnth l j) := own_ints (own_below hx2 hbr.out) (okBars_i64 HV.out HXM.out.1)
          have HXI := Lib.hid hxi
          clear hx1 hx2 hxi
          have q1 : ∀ d os, Calls Try.prog 23 #[.agg #[.slice a S.bars.length cap1, .int .i64 S.kerf, .slice a2 S.pieces.length cap2, .int .i64 S.wrong], .slice xA (xnth l j).length xcap, .int .i64 k] (grow (redrawn wr d) os) fun e w'' => e = .returned (.bool (wrongAt S k (nth (xnth l j) k).toNat)) ∧ ∃ p : Regrown, w'' = grow (redrawn wr p.d) p.os := fun d os =>
            Calls.regrown_of (by
              have := rIsWrong_any _ _ S (xnth l j) k _ (HST.out.next (below_regrown wr d os)).st (Nat.le_refl _) ((HXI.out.below (below_regrown wr d os)).mono (below_regrown wr d os).size) HXM.out.1 hk0 (by rw [HXM.out.2]; exact hk1)
              rw [Int.toNat_natCast] at this
              exact this)
          have Q1 := Lib.hid q1
          have k0 := cell_regrown c0
          have k1 := cell_regrown c1
          have k2 := cell_regrown c2
          have k3 := cell_regrown c3
          have k4 := cell_regrown hc
          clear q1 c0 c1 c2 c3 hc
          cases hw : wrTo S l k j
          all_goals
            have HW := Lib.hid hw
            clear hw
            go_wp2_with fail
            refine wp_region_quiet_below (by kernel_rfl) (by kernel_rfl) ?_
            repeat (first | go_big_quiet_step ((go_at_call 23; with_reducible exact Q1.out _ _)) | quiet_step ((go_at_call 23; with_reducible exact Q1.out _ _)))
            refine wpQuiet_nil ?_
            intro _ hw'
            obtain ⟨⟨dq, osq⟩, hw''⟩ := hw'
            subst hw''
            have hbq := below_regrown wr dq osq
            have hownq := Lib.hid (own_below hown.out hbq)
            have hbrq := Lib.hid (hbr.out.trans (hbq.mono hbr.out.size))
            generalize grow (redrawn wr dq) osq = wq at hownq hbrq ⊢
            clear hbq k0 k1 k2 k3 k4
            go_wp2
            exact ⟨⟨j + 1, by omega, by go_num, by simp [wrTo, HW.out], hownq, hbrq⟩, by simp [intOf]; omega⟩
        · obtain rfl : l.length = j := by omega
          cases hw : wrTo S l k l.length
          · have HF := Lib.hid ((strF_to (l := l) hlt).trans hw)
            go_wp2
            exact ⟨⟨k + 1, by omega, by go_num, by rw [numsTo_no HF.out]; exact hown, hbr⟩, by simp [intOf]; omega⟩
          · have HF := Lib.hid ((strF_to (l := l) hlt).trans hw)
            have hle := numsTo_length (strF S l) k
            go_wp2_with (at_builtin; refine wpList_append_own _ rfl _ _ 26 rfl w2.heap.size 3 i0 (.int .i64 0) 1 8 Try.underlying26 hi hz0 hz1 hz2 rfl (by decide) _ _ _ rfl (hown.out.alloc _) ⟨wr.heap.size, 0, none⟩ 1 1 [.int .i64 k] rfl rfl ?c1 ?c2 ?c3 ?c4 ?c5 ?_)
            case c1 => exact cell_one_new _ _ _
            case c2 => simp [Value.oneCell']
            case c3 => unfold maxLen; omega
            case c4 => omega
            case c5 => have := hbr.out.size; simp; omega
            intro v' w1 hown' hgrow _
            have hw1 : Below w2.heap.size w2 w1 := (hbr.out.alloc hbr.out.size _).grown hgrow (by have := hbr.out.size; simp; omega) (fun j e => (hown.out.lt j e).1)
            have HO1 := Lib.hid (show w1.ownsRow w2.heap.size 3 1 v' (numsTo (strF S l) (k + 1)).length ((numsTo (strF S l) (k + 1)).map (Value.int .i64)) from by
              rw [numsTo_yes HF.out, List.length_append, List.map_append]; exact hown')
            have HW1 := Lib.hid hw1
            clear hown' hgrow hw1
            go_wp2
            exact ⟨⟨k + 1, by omega, by go_num, HO1, HW1⟩, by simp [intOf]; omega⟩
    · obtain rfl : S.pieces.length = k := by omega
      go_wp2
      go_ret2
      exact ⟨_, rfl, by rw [HST0.out]; exact ints_of_own hown.out (fun x hx => by obtain ⟨j, hj, rfl, _⟩ := mem_numsTo.1 hx; exact I64_small (by omega) (by omega)), HST.out.b⟩
end Go.Proofs.Ytjflpmhlodgadaa
