/-
  Walks: the reference's Of.
-/
import Derived.Test.YtjflpmhlodgadaaTruthsX
import Derived.Test.YtjflpmhlodgadaaAsks
namespace Go.Proofs.Ytjflpmhlodgadaa
open Go.RowKit Go.Sort

theorem numsTo_stop {f : Nat → Bool} {m : Nat} (h : ∀ j, m ≤ j → f j = false) : ∀ k, numsTo f (m + k) = numsTo f m
  | 0 => rfl
  | k + 1 => by rw [Nat.add_succ, numsTo_no (h _ (by omega)), numsTo_stop h k]
theorem ofF_out {S : Store} (p : Nat) (hp : p < S.pieces.length) {j : Nat} (h : S.bars.length ≤ j) : ofF (truthsL S) p j = false := by
  cases hf : ofF (truthsL S) p j
  · rfl
  · simp only [ofF, List.any_eq_true, decide_eq_true_eq] at hf
    obtain ⟨x, hx, e⟩ := hf
    obtain ⟨hO, hl⟩ := truths_ok hx
    have := hO.2 p (by omega)
    omega
theorem ofS_to {S : Store} (hV : Valid S) {p : Nat} (hp : p < S.pieces.length) : ofS S p = numsTo (ofF (truthsL S) p) S.bars.length := by
  have h := numsTo_stop (f := ofF (truthsL S) p) (m := S.bars.length) (fun j hj => ofF_out p hp hj) (6 - S.bars.length)
  rw [Nat.add_sub_cancel' hV.nb] at h
  exact h
theorem ofF_true {l : List (List Int)} {p k i : Nat} (hi : i < l.length) (h : nth (xnth l i) p = (k : Int)) : ofF l p k = true := by
  simp only [ofF, List.any_eq_true, decide_eq_true_eq]; exact ⟨_, xnth_mem hi, h⟩
theorem ofF_none {l : List (List Int)} {p k : Nat} (h : ∀ i, i < l.length → nth (xnth l i) p ≠ (k : Int)) : ofF l p k = false := by
  cases hf : ofF l p k
  · rfl
  · simp only [ofF, List.any_eq_true, decide_eq_true_eq] at hf
    obtain ⟨x, hx, e⟩ := hf
    obtain ⟨i, hi, rfl⟩ := mem_xnth.1 hx
    exact absurd e (h i hi)

set_option maxRecDepth 100000 in
set_option maxHeartbeats 8000000 in
theorem rOf_err (v : Value) (S : Store) (A : Int) (pa : Bool) (er : Int) (w : World) (hx : StoreAt w.heap.size w v S) (hpa : wB A 0 ((S.pieces.length : Int) - 1) = pa) (her : (er == 0) = false)
    (ht : ∀ w, StoreAt w.heap.size w v S → Calls Try.prog 75 #[v, .bool pa] w (GaveListsX [] er w)) :
    Calls Try.prog 47 #[v, .int .i64 A] w fun e w' => e = .returned (.tuple #[.slice none 0 0, .int .i64 er]) ∧ Below w.heap.size w w' := by
  obtain ⟨a, cap1, b1, off, a2, cap2, b2, off2, rfl, hm, hm2, HA, HC, HA2, HC2⟩ := hx.opened
  have hs := Stat.first hx
  have HS0 := Lib.hid hs
  have HPA := Lib.hid hpa
  have HT := Lib.hid ht
  clear hs hx hpa ht HA HC HA2 HC2
  go_enter Try.func47, Try.ntmps47
  go_wp2_with fail
  have hs := HS0.out
  clear HS0
  generalize w.alloc (.cells #[.slice a S.bars.length cap1, .int .i64 S.kerf, .slice a2 S.pieces.length cap2, .int .i64 S.wrong] 25) = W at hs ⊢
  have q1 : ∀ d os, Calls Try.prog 22 #[.agg #[.slice a S.bars.length cap1, .int .i64 S.kerf, .slice a2 S.pieces.length cap2, .int .i64 S.wrong], .int .i64 A] (grow (redrawn W d) os) fun e w'' => e = .returned (.bool pa) ∧ ∃ p : Regrown, w'' = grow (redrawn W p.d) p.os := fun d os => Calls.regrown_of (rIsPiece_to HPA.out (hs.next (below_regrown W d os)).st)
  have q3 : ∀ d os, Calls Try.prog 75 #[.agg #[.slice a S.bars.length cap1, .int .i64 S.kerf, .slice a2 S.pieces.length cap2, .int .i64 S.wrong], .bool pa] (grow (redrawn W d) os) fun e w'' => e = .returned (.tuple #[.slice none 0 0, .int .i64 er]) ∧ ∃ p : Regrown, w'' = grow (redrawn W p.d) p.os := fun d os => Calls.regrown_of ((HT.out _ (hs.next (below_regrown W d os)).st).mono fun _ _ h => h.nil)
  obtain ⟨c0, c1, c2, c3⟩ := box4_of hs.blk
  have k0 := cell_regrown c0
  have k1 := cell_regrown c1
  have k2 := cell_regrown c2
  have k3 := cell_regrown c3
  have HS1 := Lib.hid hs
  have Q1 := Lib.hid q1
  have Q3 := Lib.hid q3
  clear hs c0 c1 c2 c3 q1 q3
  refine wp_region_quiet_below (by kernel_rfl) (by kernel_rfl) ?_
  repeat (first | go_big_quiet_step (first | (go_at_call 22; with_reducible exact Q1.out _ _) | (go_at_call 75; with_reducible exact Q3.out _ _)) | quiet_step (first | (go_at_call 22; with_reducible exact Q1.out _ _) | (go_at_call 75; with_reducible exact Q3.out _ _)))
  refine wpQuiet_nil ?_
  intro _ hw'
  obtain ⟨⟨dq, osq⟩, hw''⟩ := hw'
  subst hw''
  have HB := Lib.hid (HS1.out.next (below_regrown W dq osq)).b
  generalize grow (redrawn W dq) osq = wq at HB ⊢
  clear k0 k1 k2 k3
  go_wp2
  go_ret2
  exact ⟨rfl, HB.out⟩

set_option maxRecDepth 100000 in
set_option maxHeartbeats 8000000 in
theorem rOf_any (v : Value) (S : Store) (p : Nat) (w : World) (hx : StoreAt w.heap.size w v S) (hV : Valid S) (hp : p < S.pieces.length) (hne : (truthsL S).length ≠ 0) :
    Calls Try.prog 47 #[v, .int .i64 p] w (GaveIntsE (ofS S p) 0 w) := by
  obtain ⟨a, cap1, b1, off, a2, cap2, b2, off2, rfl, hm, hm2, HA, HC, HA2, HC2⟩ := hx.opened
  obtain ⟨i0, hi, hz0, hz1, hz2⟩ := info_parts Try_infoInt
  have hs := Stat.first hx
  have HS0 := Lib.hid hs
  have HSD := Lib.hid (hs.next ((Below.refl _ _).drew))
  have HV := Lib.hid hV
  have hnb := hV.nb
  have HPA := Lib.hid (show wB (p : Int) 0 ((S.pieces.length : Int) - 1) = true from wB_iff.2 ⟨by omega, by omega⟩)
  have hlen : (truthsL S).length ≤ 1679616 := sawL_len hV _
  have HOF := Lib.hid (ofS_to hV hp)
  obtain ⟨l, hl⟩ : ∃ l, l = truthsL S := ⟨_, rfl⟩
  have HOK := Lib.hid (show ∀ x ∈ l, OkBars S x ∧ x.length = S.pieces.length from by rw [hl]; exact fun x h => truths_ok h)
  rw [← hl] at hlen hne HOF
  have HT := Lib.hid (fun w (h : StoreAt w.heap.size w (.agg #[.slice a S.bars.length cap1, .int .i64 S.kerf, .slice a2 S.pieces.length cap2, .int .i64 S.wrong]) S) => show Calls Try.prog 75 #[_, .bool true] w (GaveListsE l 0 w) from by
    have h := truths_any' _ S w h hV
    rw [← hl, errN_pos hne] at h
    exact h)
  clear hs hx hl hV hne HA HC HA2 HC2
  go_enter Try.func47, Try.ntmps47
  go_wp2_with fail
  go_region_held3 (fun w' => w'.cell? ⟨w.heap.size, 0, none⟩ = some (.slice a S.bars.length cap1) ∧ w'.cell? ⟨w.heap.size, 1, none⟩ = some (.int .i64 S.kerf) ∧ w'.cell? ⟨w.heap.size, 2, none⟩ = some (.slice a2 S.pieces.length cap2) ∧ w'.cell? ⟨w.heap.size, 3, none⟩ = some (.int .i64 S.wrong))
    (first
      | exact box4_of HSD.out.blk
      | exact box4_of hsA.blk
      | exact box4_of hs2.blk)
    (first
      | (go_at_call 22; with_reducible (refine (rIsPiece_to HPA.out HSD.out.st).mono ?_); rintro e wA ⟨rfl, hb⟩; have hsA := HSD.out.next hb; clear hb)
      | (go_at_call 75; refine (HT.out _ hsA.st).mono ?_; rintro e w2 ⟨u, rfl, hu, hb⟩; obtain ⟨us, u1, u2, u3⟩ := hu; obtain ⟨uA, ucap, rfl, _⟩ := own_form u2; have hs2 := hsA.next hb; have HB := Lib.hid hs2.b))
  have HS2 := Lib.hid hs2
  have N2 := Lib.hid u2
  have N3 := Lib.hid u3
  obtain ⟨c0, c1, c2, c3⟩ := box4_of hs2.blk
  clear hb u1 u2 u3 hs2 hsA
  go_wp2
  go_loopw [8, 9] (fun out b wr => ∃ k : Nat, k ≤ S.bars.length ∧ b = .int .i64 k ∧ Hid (wr.ownsRow w2.heap.size 3 1 out (numsTo (ofF l p) k).length ((numsTo (ofF l p) k).map (Value.int .i64))) ∧ Hid (Below w2.heap.size w2 wr)) (fun _ b _ => S.bars.length - (intOf b).toNat)
  case atStart => exact ⟨0, Nat.zero_le _, rfl, World.ownsRow_nil _ _ _ _, Below.refl _ _⟩
  case round =>
    obtain ⟨k, hk, rfl, hown, hbr⟩ := hrel
    have hst := HS2.out.next hbr.out
    clear c0 c1 c2 c3
    obtain ⟨c0, c1, c2, c3⟩ := box4_of hst.blk
    have HST := Lib.hid hst
    obtain ⟨oA, ocap, rfl, _⟩ := own_form hown.out
    clear hst
    by_cases hlt : k < S.bars.length
    · have hk1 : (k : Int) < (S.bars.length : Int) := by omega
      go_wp2
      go_loopw [8, 10] (fun o i wi => ∃ j : Nat, j ≤ l.length ∧ i = .int .i64 j ∧ o = .slice oA (numsTo (ofF l p) k).length ocap ∧ Hid (∀ i, i < j → nth (xnth l i) p ≠ (k : Int)) ∧ wi = wr) (fun _ i _ => l.length - (intOf i).toNat)
      case atStart => exact ⟨0, Nat.zero_le _, rfl, rfl, fun i hi => absurd hi (by omega), rfl⟩
      case round =>
        obtain ⟨j, hj, rfl, rfl, hno, rfl⟩ := hrel
        by_cases hjl : j < l.length
        · have hj0 : (0 : Int) ≤ (j : Int) := by omega
          have hj1 : (j : Int) < (l.length : Int) := by omega
          obtain ⟨g, cap, hv, _, hgl⟩ := N2.out.form (by omega)
          cases hv
          obtain ⟨x, hx1, hx2⟩ := N3.out j hjl
          obtain ⟨xA, xcap, rfl, _⟩ := own_form hx2
          have hc := ((own_below N2.out hbr.out).cellAt j (by omega)).trans hx1
          have HXM := Lib.hid (HOK.out _ (xnth_mem hjl))
          have hxi : IntsAt wr.heap.size wr (.slice xA (xnth l j).length xcap) (xnth l j) := own_ints (own_below hx2 hbr.out) (okBars_i64 HV.out HXM.out.1)
          have hxl : (xnth l j).length = S.pieces.length := HXM.out.2
          obtain ⟨a3, cap3, b3, off3, he, hm3, HA3, HC3, _⟩ := hxi.opened
          injection he with e1 e2 e3
          subst e1
          subst e3
          obtain ⟨h0, h1⟩ := HA3.out (by omega)
          subst h0
          have d0 := HC3.out p (by omega)
          have HXL := Lib.hid hxl
          have hp3 : (p : Int) < ((xnth l j).length : Int) := by omega
          clear hx1 hx2 hxi hxl e2 HA3 HC3
          cases hq : (nth (xnth l j) p == (k : Int))
          · have HNO := Lib.hid (show ∀ i, i < j + 1 → nth (xnth l i) p ≠ (k : Int) from fun i hi => by
              by_cases e : i = j
              · subst e; simpa using hq
              · exact hno.out i (by omega))
            go_wp2
            exact ⟨⟨j + 1, by omega, by go_num, rfl, HNO, trivial⟩, by simp [intOf]; omega⟩
          · have HF := Lib.hid (ofF_true hjl (show nth (xnth l j) p = (k : Int) from by simpa using hq))
            have hle := numsTo_length (ofF l p) k
            go_wp2_with (at_builtin; refine wpList_append_own _ rfl _ _ 26 rfl w2.heap.size 3 i0 (.int .i64 0) 1 8 Try.underlying26 hi hz0 hz1 hz2 rfl (by decide) _ _ _ rfl (hown.out.alloc _) ⟨wr.heap.size, 0, none⟩ 1 1 [.int .i64 k] rfl rfl ?c1 ?c2 ?c3 ?c4 ?c5 ?_)
            case c1 => exact cell_one_new _ _ _
            case c2 => simp [Value.oneCell']
            case c3 => unfold maxLen; omega
            case c4 => omega
            case c5 => have := hbr.out.size; simp; omega
            intro v' w1 hown' hgrow _
            have hw1 : Below w2.heap.size w2 w1 := (hbr.out.alloc hbr.out.size _).grown hgrow (by have := hbr.out.size; simp; omega) (fun j e => (hown.out.lt j e).1)
            have HO1 := Lib.hid (show w1.ownsRow w2.heap.size 3 1 v' (numsTo (ofF l p) (k + 1)).length ((numsTo (ofF l p) (k + 1)).map (Value.int .i64)) from by
              rw [numsTo_yes HF.out, List.length_append, List.map_append]; exact hown')
            have HW1 := Lib.hid hw1
            clear hown' hgrow hw1
            go_wp2
            exact ⟨⟨k + 1, by omega, by go_num, HO1, HW1⟩, by simp [intOf]; omega⟩
        · obtain rfl : l.length = j := by omega
          have HF := Lib.hid (ofF_none hno.out)
          go_wp2
          exact ⟨⟨k + 1, by omega, by go_num, by rw [numsTo_no HF.out]; exact hown, hbr⟩, by simp [intOf]; omega⟩
    · obtain rfl : S.bars.length = k := by omega
      go_wp2
      go_ret2
      exact ⟨_, rfl, by rw [HOF.out]; exact ints_of_own hown.out (fun x hx => by obtain ⟨j, hj, rfl, _⟩ := mem_numsTo.1 hx; exact I64_small (by omega) (by omega)), HST.out.b⟩
end Go.Proofs.Ytjflpmhlodgadaa
