/-
  Walks: the reference's list of all truths.
-/
import Derived.Test.YtjflpmhlodgadaaAllW
import Derived.Test.YtjflpmhlodgadaaBase2
import Derived.Lib.QuietBelow
namespace Go.Proofs.Ytjflpmhlodgadaa
open Go.RowKit Go.Sort

/-- A list of rows, and an error. -/
def GaveListsE (xs : List (List Int)) (err : Int) (w : World) (e : Ending) (w' : World) : Prop := ∃ u, e = .returned (.tuple #[u, .int .i64 err]) ∧ ListsAt w' w.heap.size u xs ∧ Below w.heap.size w w'
/-- The rows among the first k that have no more wrong marks than the store lets be. -/
def filtTo (S : Store) (l : List (List Int)) (k : Nat) : List (List Int) := (l.take k).filter fun x => decide (wrongs S x ≤ S.wrong)
theorem filtTo_step {S : Store} {l : List (List Int)} {k : Nat} (h : k < l.length) : filtTo S l (k + 1) = filtTo S l k ++ (if wrongs S (xnth l k) ≤ S.wrong then [xnth l k] else []) := by
  unfold filtTo
  rw [List.take_succ_eq_append_getElem h, List.filter_append, xnth_lt h]
  congr 1
  by_cases hw : wrongs S l[k] ≤ S.wrong <;> simp [hw]
theorem filtTo_le (S : Store) (l : List (List Int)) (k : Nat) : (filtTo S l k).length ≤ l.length := by
  unfold filtTo
  exact Nat.le_trans (List.length_filter_le _ _) (by rw [List.length_take]; omega)
theorem allL_ok {S : Store} : ∀ (m : Nat) (first : List Int), first.length + m = S.pieces.length → OkBars S first → ∀ x ∈ allL S m first, OkBars S x ∧ x.length = S.pieces.length
  | 0, first, hl, hO, x, hx => by
    simp only [allL] at hx
    split at hx
    · rw [List.mem_singleton] at hx; subst hx; exact ⟨hO, by omega⟩
    · cases hx
  | m + 1, first, hl, hO, x, hx => by
    simp only [allL] at hx
    split at hx
    · obtain ⟨k, hk, hx⟩ := mem_flatTo.1 hx
      exact allL_ok m _ (by simp; omega) (okBars_snoc hO (by omega) hk) x hx
    · cases hx

theorem ListsAt.base {w : World} {base base' : Nat} {u : Value} {xs : List (List Int)} (h : ListsAt w base u xs) (hb : base' ≤ base) : ListsAt w base' u xs := by
  obtain ⟨vs, h1, h2, h3⟩ := h
  exact ⟨vs, h1, own_base h2 hb, h3⟩
set_option maxHeartbeats 2000000 in
theorem truths_bad (v : Value) (S : Store) (is : Bool) (w : World) (hx : StoreAt w.heap.size w v S) (hv : validB S = false) :
    Calls Try.prog 75 #[v, .bool is] w (GaveListsE [] 10 w) := by
  obtain ⟨a, cap1, b1, off, a2, cap2, b2, off2, rfl, hm, hm2, HA, HC, HA2, HC2⟩ := hx.opened
  have hs := Stat.first hx
  obtain ⟨c0, c1, c2, c3⟩ := box4_of hs.blk
  have HS0 := Lib.hid hs
  have HV := Lib.hid hv
  clear hs hx hv HA HC HA2 HC2
  go_enter Try.func75, Try.ntmps75
  go_wp2_with fail
  refine (rCheck_bad HV.out HS0.out.st).mono ?_
  rintro e w1 ⟨rfl, hb⟩
  have HB := Lib.hid (HS0.out.next hb).b
  clear hb
  go_wp2
  go_ret2
  exact ⟨_, rfl, ListsAt.nil _ _, HB.out⟩
set_option maxHeartbeats 2000000 in
theorem truths_arg (v : Value) (S : Store) (w : World) (hx : StoreAt w.heap.size w v S) (hv : validB S = true) :
    Calls Try.prog 75 #[v, .bool false] w (GaveListsE [] 1 w) := by
  obtain ⟨a, cap1, b1, off, a2, cap2, b2, off2, rfl, hm, hm2, HA, HC, HA2, HC2⟩ := hx.opened
  have hs := Stat.first hx
  obtain ⟨c0, c1, c2, c3⟩ := box4_of hs.blk
  have HS0 := Lib.hid hs
  have HV := Lib.hid hv
  clear hs hx hv HA HC HA2 HC2
  go_enter Try.func75, Try.ntmps75
  go_wp2_with fail
  refine (rCheck_ok HV.out HS0.out.st).mono ?_
  rintro e w1 ⟨rfl, hb⟩
  have HB := Lib.hid (HS0.out.next hb).b
  clear hb
  go_wp2
  go_ret2
  exact ⟨_, rfl, ListsAt.nil _ _, HB.out⟩

set_option maxRecDepth 100000 in
set_option maxHeartbeats 8000000 in
theorem truths_any' (v : Value) (S : Store) (w : World) (hx : StoreAt w.heap.size w v S) (hV : Valid S) :
    Calls Try.prog 75 #[v, .bool true] w (GaveListsE (truthsL S) (errN (truthsL S).length) w) := by
  obtain ⟨a, cap1, b1, off, a2, cap2, b2, off2, rfl, hm, hm2, HA, HC, HA2, HC2⟩ := hx.opened
  obtain ⟨iI, hiI, hzI0, hzI1, hzI2⟩ := info_parts Try_infoInts
  have hs := Stat.first hx
  obtain ⟨c0, c1, c2, c3⟩ := box4_of hs.blk
  have HS0 := Lib.hid hs
  have HV := Lib.hid hV
  have HX := Lib.hid hx
  have hlen : (allL S S.pieces.length []).length ≤ 1679616 := Nat.le_trans (allL_len hV _ _) (Nat.pow_le_pow_right (by omega) hV.np)
  obtain ⟨l, hl⟩ : ∃ l, l = allL S S.pieces.length [] := ⟨_, rfl⟩
  rw [← hl] at hlen
  have HLL := Lib.hid hl
  have HOK := Lib.hid (show ∀ x ∈ l, OkBars S x ∧ x.length = S.pieces.length from by rw [hl]; exact allL_ok _ _ (by simp) ⟨by simp, fun i hi => by simp at hi⟩)
  have HTR := Lib.hid (show filtTo S l l.length = truthsL S from by rw [filtTo, List.take_length, hl]; exact all_truths hV)
  have HALL := Lib.hid (fun w (h : StoreAt w.heap.size w (.agg #[.slice a S.bars.length cap1, .int .i64 S.kerf, .slice a2 S.pieces.length cap2, .int .i64 S.wrong]) S) => show Calls Try.prog 74 #[_, .slice none 0 0] w (GaveLists l w) from by
    rw [hl]; exact all_any hV S.pieces.length [] (by simp) ⟨by simp, fun i hi => by simp at hi⟩ _ _ w h (World.ownsRow_nil _ _ _ _))
  clear hs hx hl hV HA HC HA2 HC2
  go_enter Try.func75, Try.ntmps75
  go_wp2_with fail
  refine (rCheck_ok (valid_iff.2 HV.out) HS0.out.st).mono ?_
  rintro e w1 ⟨rfl, hb⟩
  have hs := HS0.out.next hb
  clear c0 c1 c2 c3 hb
  obtain ⟨c0, c1, c2, c3⟩ := box4_of hs.blk
  have HS1 := Lib.hid hs
  clear hs
  go_wp2_with fail
  refine (HALL.out _ HS1.out.st).mono ?_
  rintro e w2 ⟨u, rfl, hu, hb⟩
  have hs := HS1.out.next hb
  clear c0 c1 c2 c3 hb
  obtain ⟨c0, c1, c2, c3⟩ := box4_of hs.blk
  obtain ⟨ls, n1, n2, n3⟩ := hu
  obtain ⟨lA, lcap, rfl, _⟩ := own_form n2
  have HS2 := Lib.hid hs
  have N1 := Lib.hid n1
  have N2 := Lib.hid n2
  have N3 := Lib.hid n3
  have hz12 := HS1.out.b.size
  clear hs n1 n2 n3
  go_wp2
  go_loopw [7, 9] (fun out i wr => ∃ k : Nat, k ≤ l.length ∧ i = .int .i64 k ∧ Hid (ListsAt wr w2.heap.size out (filtTo S l k)) ∧ Hid (Below w2.heap.size w2 wr)) (fun _ i _ => l.length - (intOf i).toNat)
  case atStart => exact ⟨0, Nat.zero_le _, rfl, ListsAt.nil _ _, Below.refl _ _⟩
  case round =>
    obtain ⟨k, hk, rfl, hlists, hbr⟩ := hrel
    have hst := HS2.out.next hbr.out
    clear c0 c1 c2 c3
    obtain ⟨c0, c1, c2, c3⟩ := box4_of hst.blk
    have HST := Lib.hid hst
    obtain ⟨vs, l1, l2, l3⟩ := hlists.out
    obtain ⟨oA, ocap, rfl, _⟩ := own_form l2
    have L1 := Lib.hid l1
    have L2 := Lib.hid l2
    have L3 := Lib.hid l3
    clear l1 l2 l3 hst
    by_cases hlt : k < l.length
    · have hk0 : (0 : Int) ≤ (k : Int) := by omega
      have hk1 : (k : Int) < (l.length : Int) := by omega
      obtain ⟨g, cap, hv, _, hgl⟩ := N2.out.form (by omega)
      cases hv
      obtain ⟨x, hx1, hx2⟩ := N3.out k hlt
      obtain ⟨xA, xcap, rfl, _⟩ := own_form hx2
      have hc := ((own_below N2.out hbr.out).cellAt k (by omega)).trans hx1
      have hxi : IntsAt wr.heap.size wr (.slice xA (xnth l k).length xcap) (xnth l k) := own_ints (own_below hx2 hbr.out) (okBars_i64 HV.out (HOK.out _ (xnth_mem hlt)).1)
      have HXI := Lib.hid hxi
      have HXO := Lib.hid (own_below hx2 hbr.out)
      clear hx1 hx2 hxi
      have q1 : ∀ d os, Calls Try.prog 20 #[.agg #[.slice a S.bars.length cap1, .int .i64 S.kerf, .slice a2 S.pieces.length cap2, .int .i64 S.wrong], .slice xA (xnth l k).length xcap] (grow (redrawn wr d) os) fun e w'' => e = .returned (.int .i64 (wrongs S (xnth l k))) ∧ ∃ p : Regrown, w'' = grow (redrawn wr p.d) p.os := fun d os =>
        Calls.regrown_of (rWrongs_any _ _ S (xnth l k) _ (HST.out.next (below_regrown wr d os)).st (Nat.le_refl _) ((HXI.out.below (below_regrown wr d os)).mono (below_regrown wr d os).size) (HOK.out _ (xnth_mem hlt)).1)
      have Q1 := Lib.hid q1
      have k0 := cell_regrown c0
      have k1 := cell_regrown c1
      have k2 := cell_regrown c2
      have k3 := cell_regrown c3
      have k4 := cell_regrown hc
      have HC0 := Lib.hid hc
      have HFI := Lib.hid (fun d os => below_regrown wr d os)
      clear q1 c0 c1 c2 c3 hc
      by_cases hw : wrongs S (xnth l k) ≤ S.wrong
      all_goals
        go_wp2_with fail
        refine wp_region_quiet_below (by kernel_rfl) (by kernel_rfl) ?_
        repeat (first | go_big_quiet_step ((go_at_call 20; exact Q1.out _ _)) | quiet_step ((go_at_call 20; exact Q1.out _ _)))
        refine wpQuiet_nil ?_
        intro _ hw'
        obtain ⟨⟨dq, osq⟩, hw''⟩ := hw'
        subst hw''
        have hbq := HFI.out dq osq
        generalize grow (redrawn wr dq) osq = wq at hbq ⊢
        have HBQ := Lib.hid (hbr.out.trans (hbq.mono hbr.out.size))
        have hcq := (hbq.cell (p := ⟨g, k, none⟩) (show g < wr.heap.size from by have := hbr.out.size; omega)).trans HC0.out
        have HBQ0 := Lib.hid hbq
        have hqs := hbq.size
        have hfle := filtTo_le S l k
        have hrs := hbr.out.size
        clear hbq k0 k1 k2 k3 k4
      · go_wp2_with (at_builtin; go_loud (refine wpList_onto (base := w2.heap.size) (v := .slice oA (filtTo S l k).length ocap) (n := (filtTo S l k).length) (xs := vs) (A := some ⟨wq.heap.size, 0, none⟩) (m := 1) (c := 1) (news := [.slice xA (xnth l k).length xcap]) rfl (.tmp 34) (.tmp 39) rfl Try.underlying89 hiI hzI0 hzI1 hzI2 rfl (by decide) rfl ((own_below L2.out HBQ0.out).alloc _) rfl ⟨rfl, fun _ => ⟨_, rfl, cell_one_new _ _ _⟩⟩ (by simp [Value.oneCell']) (by unfold maxLen; omega) (by omega) (by simp; omega) ?_))
        intro qA qcap w3 hown3 hgrow3 _
        have HN := Lib.hid (show ListsAt w3 w2.heap.size (.slice qA ((filtTo S l k).length + 1) qcap) (filtTo S l (k + 1)) from by
          rw [filtTo_step hlt, if_pos hw]
          exact ListsAt.append (xs := filtTo S l k) (ys := [xnth l k]) L1.out ((own_below L2.out HBQ0.out).alloc _) (fun i hi => by obtain ⟨v, h4, h5⟩ := L3.out i hi; exact ⟨v, h4, (own_below h5 HBQ0.out).alloc _⟩) rfl
            (fun i hi => by obtain rfl : i = 0 := (by simpa using hi); exact ⟨_, rfl, (own_below HXO.out HBQ0.out).alloc _⟩) hgrow3 hown3)
        have HNB := Lib.hid ((HBQ.out.alloc (by omega) _).grown hgrow3 (by simp; omega) (fun j e => (L2.out.lt j e).1))
        clear hown3 hgrow3
        go_wp2
        exact ⟨⟨k + 1, by omega, by go_num, HN, HNB⟩, by simp [intOf]; omega⟩
      · have HN := Lib.hid (show ListsAt wq w2.heap.size (.slice oA (filtTo S l k).length ocap) (filtTo S l (k + 1)) from by
          rw [filtTo_step hlt, if_neg (by omega), List.append_nil]
          exact hlists.out.below HBQ0.out)
        go_wp2
        exact ⟨⟨k + 1, by omega, by go_num, HN, HBQ⟩, by simp [intOf]; omega⟩
    · obtain rfl : l.length = k := by omega
      have hlists' := hlists.out
      rw [HTR.out] at hlists'
      have HLT := Lib.hid hlists'
      have hM0 : (filtTo S l l.length).length = (truthsL S).length := by rw [HTR.out]
      have HBW := Lib.hid (HST.out.b)
      clear hlists'
      generalize hM : (filtTo S l l.length).length = M at hM0 HLT ⊢
      have hM0 := Lib.hid hM0
      clear hM
      rcases M with _ | M
      · go_wp2
        go_ret2
        refine ⟨.slice none 0 0, ?_, ?_, HBW.out⟩
        · rw [← hM0.out]; rfl
        · rw [List.length_eq_zero_iff.1 hM0.out.symm]; exact ListsAt.nil _ _
      · go_wp2
        go_ret2
        refine ⟨.slice oA (M + 1) ocap, ?_, ?_, HBW.out⟩
        · rw [← hM0.out]; rfl
        · have h := HLT.out.base (base' := w.heap.size) (by have := HS2.out.b.size; omega)
          rw [← hM0.out] at h
          exact h
end Go.Proofs.Ytjflpmhlodgadaa
