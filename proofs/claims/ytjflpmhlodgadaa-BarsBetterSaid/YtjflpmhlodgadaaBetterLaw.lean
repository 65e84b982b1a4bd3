/-
  A law's body: a mark that is read better, fewer wrong marks (P1.14).
-/
import Derived.Test.YtjflpmhlodgadaaInsideW
import Derived.Test.YtjflpmhlodgadaaEdMore
namespace Go.Proofs.Ytjflpmhlodgadaa
open Go.RowKit Go.Sort

theorem inside_refl {S : Store} (hV : Valid S) : Inside S S := ⟨hV, hV, rfl, rfl, rfl, fun _ _ => rfl, fun _ h => h⟩
/-- The store whose mark is read better. -/
def betterP (S : Store) (p h : Int) : Store := if wB p 0 ((S.pieces.length : Int) - 1) = true then lessP S p.toNat h else S
theorem betterP_inside {S : Store} {p h : Int} (hV : Valid S) : Inside (betterP S p h) S := by
  unfold betterP
  split
  · rename_i hp
    have := wB_iff.1 hp
    exact lessP_inside hV (by omega)
  · exact inside_refl hV
def leftTo (xs : List Int) (h : Int) (j : Nat) : List Int := (xs.take j).filter (fun x => decide (x ≠ h))
theorem leftTo_yes {xs : List Int} {h : Int} {j : Nat} (hj : j < xs.length) (hn : nth xs j ≠ h) : leftTo xs h (j + 1) = leftTo xs h j ++ [nth xs j] := by
  unfold leftTo
  rw [take_nth hj, List.filter_append]
  simp [hn]
theorem leftTo_no {xs : List Int} {h : Int} {j : Nat} (hj : j < xs.length) (hn : nth xs j = h) : leftTo xs h (j + 1) = leftTo xs h j := by
  unfold leftTo
  rw [take_nth hj, List.filter_append]
  simp [hn]
theorem leftTo_le (xs : List Int) (h : Int) (j : Nat) : (leftTo xs h j).length ≤ j := Nat.le_trans (List.length_filter_le _ _) (List.length_take_le _ _)

set_option maxRecDepth 100000 in
set_option maxHeartbeats 16000000 in
theorem BarsBetter_any (v : Value) (S : Store) (Y0 Y1 Y2 P R C D : Int) (w : World) (hx : StoreAt w.heap.size w v S) (hI2 : I64 Y2) :
    Calls Try.prog 4 #[v, .agg #[.int .i64 Y0, .int .i64 Y1, .int .i64 Y2], .agg #[.int .i64 P, .int .i64 R, .int .i64 C, .int .i64 D]] w fun e w' => e = .returned (.bool true) ∧ Below w.heap.size w w' := by
  have hx' := hx
  obtain ⟨a, cap1, b1, off, a2, cap2, b2, off2, rfl, hm, hm2, HA, HC, HA2, HC2⟩ := hx.opened
  obtain ⟨i0, hi, hz0, hz1, hz2⟩ := info_parts Try_infoInt
  have HWF := Lib.hid hx'.wf
  have HS0 := Lib.hid (((Stat.first hx').alloc (.cells #[.int .i64 Y0, .int .i64 Y1, .int .i64 Y2] 56)).alloc (.cells #[.int .i64 P, .int .i64 R, .int .i64 C, .int .i64 D] 28))
  have HY0 := Lib.hid (show BlkAt (((w.alloc (.cells #[.slice a S.bars.length cap1, .int .i64 S.kerf, .slice a2 S.pieces.length cap2, .int .i64 S.wrong] 25)).alloc (.cells #[.int .i64 Y0, .int .i64 Y1, .int .i64 Y2] 56)).alloc (.cells #[.int .i64 P, .int .i64 R, .int .i64 C, .int .i64 D] 28)) (w.heap.size + 1) (.cells #[.int .i64 Y0, .int .i64 Y1, .int .i64 Y2] 56) from (heap_at3 w _ _ _).2.1)
  have HX0 := Lib.hid (show BlkAt (((w.alloc (.cells #[.slice a S.bars.length cap1, .int .i64 S.kerf, .slice a2 S.pieces.length cap2, .int .i64 S.wrong] 25)).alloc (.cells #[.int .i64 Y0, .int .i64 Y1, .int .i64 Y2] 56)).alloc (.cells #[.int .i64 P, .int .i64 R, .int .i64 C, .int .i64 D] 28)) (w.heap.size + 2) (.cells #[.int .i64 P, .int .i64 R, .int .i64 C, .int .i64 D] 28) from (heap_at3 w _ _ _).2.2)
  clear hx hx' HA HC
  obtain ⟨c0, c1, c2, c3⟩ := box4_of HS0.out.blk
  obtain ⟨y0, y1, y2⟩ := box3_of HY0.out
  obtain ⟨x0, x1, x2, x3⟩ := box4_of HX0.out
  cases hr : readyB S
  case false =>
    have HR := Lib.hid hr
    clear hr
    go_enter Try.func4, Try.ntmps4
    go_wp2_with fail
    refine (ready_to HR.out HS0.out.st).mono ?_
    rintro e w1 ⟨rfl, hb⟩
    have HS1 := Lib.hid (HS0.out.next hb)
    have HY1 := Lib.hid (HY0.out.next hb)
    have HX1 := Lib.hid (HX0.out.next hb)
    clear hb c0 c1 c2 c3 y0 y1 y2 x0 x1 x2 x3
    obtain ⟨c0, c1, c2, c3⟩ := box4_of HS1.out.blk
    obtain ⟨y0, y1, y2⟩ := box3_of HY1.out
    obtain ⟨x0, x1, x2, x3⟩ := box4_of HX1.out
    go_wp2_with fail
    refine (works_any _).mono ?_
    rintro e wz ⟨rfl, hb⟩
    have HB := Lib.hid ((HS1.out.next hb).b)
    clear hb
    go_wp2
    go_ret
    exact ⟨rfl, HB.out⟩
  obtain ⟨hV, hFew, hb4, hp5⟩ := readyB_few hr
  have HR := Lib.hid hr
  have HV := Lib.hid hV
  have HFEW := Lib.hid hFew
  obtain ⟨hw0, hw8⟩ := hV.wrong
  clear hr hV hFew
  by_cases h0 : 0 ≤ Y2
  case neg =>
    have hd1 : decide (Y2 < 0) = true := decide_eq_true (by omega)
    clear h0
    go_enter Try.func4, Try.ntmps4
    go_wp2_with fail
    refine (ready_to HR.out HS0.out.st).mono ?_
    rintro e w1 ⟨rfl, hb⟩
    have HS1 := Lib.hid (HS0.out.next hb)
    have HY1 := Lib.hid (HY0.out.next hb)
    have HX1 := Lib.hid (HX0.out.next hb)
    clear hb c0 c1 c2 c3 y0 y1 y2 x0 x1 x2 x3
    obtain ⟨c0, c1, c2, c3⟩ := box4_of HS1.out.blk
    obtain ⟨y0, y1, y2⟩ := box3_of HY1.out
    obtain ⟨x0, x1, x2, x3⟩ := box4_of HX1.out
    go_wp2_with fail
    refine (works_any _).mono ?_
    rintro e wz ⟨rfl, hb⟩
    have HB := Lib.hid ((HS1.out.next hb).b)
    clear hb
    go_wp2
    go_ret
    exact ⟨rfl, HB.out⟩
  by_cases h1 : Y2 ≤ S.wrong
  case neg =>
    have hd1 : decide (Y2 < 0) = false := decide_eq_false (by omega)
    have hd2 : decide (S.wrong < Y2) = true := decide_eq_true (by omega)
    clear h0 h1
    go_enter Try.func4, Try.ntmps4
    go_wp2_with fail
    refine (ready_to HR.out HS0.out.st).mono ?_
    rintro e w1 ⟨rfl, hb⟩
    have HS1 := Lib.hid (HS0.out.next hb)
    have HY1 := Lib.hid (HY0.out.next hb)
    have HX1 := Lib.hid (HX0.out.next hb)
    clear hb c0 c1 c2 c3 y0 y1 y2 x0 x1 x2 x3
    obtain ⟨c0, c1, c2, c3⟩ := box4_of HS1.out.blk
    obtain ⟨y0, y1, y2⟩ := box3_of HY1.out
    obtain ⟨x0, x1, x2, x3⟩ := box4_of HX1.out
    go_wp2_with fail
    refine (works_any _).mono ?_
    rintro e wz ⟨rfl, hb⟩
    have HB := Lib.hid ((HS1.out.next hb).b)
    clear hb
    go_wp2
    go_ret
    exact ⟨rfl, HB.out⟩
  have hd1 : decide (Y2 < 0) = false := decide_eq_false (by omega)
  have hd2 : decide (S.wrong < Y2) = false := decide_eq_false (by omega)
  go_enter Try.func4, Try.ntmps4
  go_wp2_with fail
  refine (ready_to HR.out HS0.out.st).mono ?_
  rintro e w1 ⟨rfl, hb⟩
  have HS1 := Lib.hid (HS0.out.next hb)
  have HY1 := Lib.hid (HY0.out.next hb)
  have HX1 := Lib.hid (HX0.out.next hb)
  clear hb c0 c1 c2 c3 y0 y1 y2 x0 x1 x2 x3
  obtain ⟨c0, c1, c2, c3⟩ := box4_of HS1.out.blk
  obtain ⟨y0, y1, y2⟩ := box3_of HY1.out
  obtain ⟨x0, x1, x2, x3⟩ := box4_of HX1.out
  go_wp2_with fail
  refine (Fewest_any _ S _ HS1.out.st HV.out).mono ?_
  rintro e w2 ⟨rfl, hb⟩
  have HS2 := Lib.hid (HS1.out.next hb)
  have HY2 := Lib.hid (HY1.out.next hb)
  have HX2 := Lib.hid (HX1.out.next hb)
  clear hb c0 c1 c2 c3 y0 y1 y2 x0 x1 x2 x3
  obtain ⟨c0, c1, c2, c3⟩ := box4_of HS2.out.blk
  obtain ⟨y0, y1, y2⟩ := box3_of HY2.out
  obtain ⟨x0, x1, x2, x3⟩ := box4_of HX2.out
  go_wp2_with fail
  refine (Many_any _ S _ HS2.out.st HV.out).mono ?_
  rintro e w3 ⟨rfl, hb⟩
  have HS3 := Lib.hid (HS2.out.next hb)
  have HY3 := Lib.hid (HY2.out.next hb)
  have HX3 := Lib.hid (HX2.out.next hb)
  clear hb c0 c1 c2 c3 y0 y1 y2 x0 x1 x2 x3
  obtain ⟨c0, c1, c2, c3⟩ := box4_of HS3.out.blk
  obtain ⟨y0, y1, y2⟩ := box3_of HY3.out
  obtain ⟨x0, x1, x2, x3⟩ := box4_of HX3.out
  obtain ⟨f, hf⟩ : ∃ f, f = (fewV S).1 := ⟨_, rfl⟩
  obtain ⟨er, her⟩ : ∃ f, f = (fewV S).2 := ⟨_, rfl⟩
  obtain ⟨n, hn⟩ : ∃ n, n = (truthsL S).length := ⟨_, rfl⟩
  have hft : n ≠ 0 ↔ er = 0 ∧ f ≤ S.wrong := by rw [hn, her, hf]; exact few_truths HV.out
  have he3 : er = 0 ∨ er = 3 := by rw [her, fewV_err]; exact errN_cases _
  obtain ⟨g, hgg⟩ : ∃ g, g = errN n := ⟨_, rfl⟩
  have hg3 : n = 0 → g = 3 := fun q => by rw [hgg, q]; rfl
  have hg0 : n ≠ 0 → g = 0 := fun q => by rw [hgg]; exact errN_pos q
  rw [← hf, ← her, ← hn, ← hgg]
  clear hf her hn hgg
  have HFT := Lib.hid hft
  have HE3 := Lib.hid he3
  have HG3 := Lib.hid hg3
  have HG0 := Lib.hid hg0
  clear hft he3 hg3 hg0
  go_upto_region 5 with fail
  go_cut [62] from 42 to 61 (fun b wz => b = .bool false ∧ w3 = wz)
  case first =>
    by_cases hn : n = 0
    · obtain rfl := HG3.out hn
      rcases HE3.out with rfl | rfl
      · have hd3 : decide (f ≤ S.wrong) = false := decide_eq_false (fun q => HFT.out.2 ⟨rfl, q⟩ hn)
        clear hn
        go_wp2_with (go_at_call 34; refine (isKnown_same (by simp) _).mono ?_; rintro e w' ⟨rfl, rfl⟩)
        go_meet
        exact ⟨rfl, rfl⟩
      · clear hn
        go_wp2_with (go_at_call 34; refine (isKnown_same (by simp) _).mono ?_; rintro e w' ⟨rfl, rfl⟩)
        go_meet
        exact ⟨rfl, rfl⟩
    · obtain ⟨rfl, hle⟩ := HFT.out.1 hn
      have hd3 : decide (f ≤ S.wrong) = true := decide_eq_true hle
      obtain rfl := HG0.out hn
      clear hn hle
      go_wp2_with (go_at_call 34; refine (isKnown_same (by simp) _).mono ?_; rintro e w' ⟨rfl, rfl⟩)
      go_meet
      exact ⟨rfl, rfl⟩
  case rest =>
  obtain ⟨rfl, rfl⟩ := hcut
  go_upto_region 7 with fail
  refine regionTwo (bs := w.heap.size) (S := S) (a1 := a) (c1 := cap1) (a2 := a2) (c2 := cap2) HS3.out.blk HS3.out.st HFEW.out rfl rfl ?_
  rintro W4 v4 b f1 f2 g1 g2 k1 k2 m1 m2 u hb4W hcp hbb hbu hne hlb hlu rfl
  obtain ⟨hea, heu, hap⟩ := hcp.eds hb4W hbb hbu hlb hlu
  clear c0 c1 c2 c3 y0 y1 y2 x0 x1 x2 x3
  have HS4 := Lib.hid (HS3.out.next hb4W)
  have HY4 := Lib.hid (HY3.out.next hb4W)
  have HX4 := Lib.hid (HX3.out.next hb4W)
  have HAP := Lib.hid hap
  obtain ⟨⟨o0, o1, o2, o3⟩, of⟩ := box4f_of hea.o
  have of3 := of 3
  have HEA4 := Lib.hid hea
  have HEU4 := Lib.hid heu
  have hbw : b ≠ w.heap.size + 1 := by have := HY3.out.lt; omega
  clear hcp hbb hbu hb4W hea heu hap of
  obtain ⟨c0, c1, c2, c3⟩ := box4_of HS4.out.blk
  obtain ⟨y0, y1, y2⟩ := box3_of HY4.out
  obtain ⟨x0, x1, x2, x3⟩ := box4_of HX4.out
  simp only [ptr, aggS]
  go_upto_region 9 with fail
  have HEA5 := Lib.hid (HEA4.out.wrong (S.wrong - Y2) ⟨by omega, by omega⟩)
  have HEU5 := Lib.hid (HEU4.out.otherBox (o := 3) (u := .int .i64 (S.wrong - Y2)) HEA4.out.o (Ne.symm hne) hlb)
  generalize hW5 : W4.setCell ⟨b, 3, none⟩ (.int .i64 (S.wrong - Y2)) = W5 at HEA5 HEU5 ⊢
  clear hW5 o0 o1 o2 o3 of3 c0 c1 c2 c3 y0 y1 y2 x0 x1 x2 x3
  have HS5 := Lib.hid (HS3.out.next HEA5.out.b)
  have HY5 := Lib.hid (HY3.out.next HEA5.out.b)
  have HX5 := Lib.hid (HX3.out.next HEA5.out.b)
  obtain ⟨c0, c1, c2, c3⟩ := box4_of HS5.out.blk
  obtain ⟨y0, y1, y2⟩ := box3_of HY5.out
  obtain ⟨x0, x1, x2, x3⟩ := box4_of HX5.out
  go_wp2_with fail
  refine (rIsPiece_any _ S Y0 _ HS5.out.st).mono ?_
  rintro e w6 ⟨rfl, hb⟩
  have HEA6 := Lib.hid (HEA5.out.next hb)
  have HEU6 := Lib.hid (HEU5.out.next hb)
  have HS6 := Lib.hid (HS5.out.next hb)
  have HY6 := Lib.hid (HY5.out.next hb)
  have HX6 := Lib.hid (HX5.out.next hb)
  clear hb c0 c1 c2 c3 y0 y1 y2 x0 x1 x2 x3
  obtain ⟨c0, c1, c2, c3⟩ := box4_of HS6.out.blk
  obtain ⟨y0, y1, y2⟩ := box3_of HY6.out
  obtain ⟨x0, x1, x2, x3⟩ := box4_of HX6.out
  go_upto_if 76 with fail
  go_cut [] (fun wx => Hid (Ed w3 wx b (lessW S Y2) (.slice f1 S.bars.length k1) (.slice f2 S.pieces.length k2)) ∧ Hid (Ed w3 wx u (betterP S Y0 Y1) (.slice g1 S.bars.length m1) (.slice g2 S.pieces.length m2)))
  case first =>
    cases hin : wB Y0 0 ((S.pieces.length : Int) - 1)
    case false =>
      have HE7 := Lib.hid (show Ed w3 w6 u (betterP S Y0 Y1) (.slice g1 S.bars.length m1) (.slice g2 S.pieces.length m2) from by
        rw [betterP, hin]; exact HEU6.out)
      clear hin
      go_wp2_with fail
      go_meet
      exact ⟨HEA6, HE7⟩
    case true =>
      obtain ⟨hin0, hin1⟩ := wB_iff.1 hin
      obtain ⟨p, rfl⟩ := Int.eq_ofNat_of_zero_le hin0
      have hp : p < S.pieces.length := by omega
      have hp0 : (0 : Int) ≤ (p : Int) := by omega
      have hp1 : (p : Int) < (S.pieces.length : Int) := by omega
      have HPP := Lib.hid (show betterP S (p : Int) Y1 = ⟨S.bars, S.kerf, S.pieces.set p ⟨(pnth S.pieces p).long, (pnth S.pieces p).heats.filter (fun x => decide (x ≠ Y1))⟩, S.wrong⟩ from by rw [betterP, hin, if_pos rfl]; rfl)
      obtain ⟨ha2, hb2⟩ := HA2.out (by omega)
      obtain ⟨_, hv, hc, hIH⟩ := HC2.out p hp
      obtain ⟨xs, hxs⟩ : ∃ xs, xs = (pnth S.pieces p).heats := ⟨_, rfl⟩
      have hx40 : (pnth S.pieces p).heats.length ≤ 40 := HFEW.out.nh p hp
      rw [← hxs] at hIH HPP hx40
      have hII : Hid (∀ x ∈ xs, I64 x) := hIH.opened.choose_spec.choose_spec.choose_spec.choose_spec.2.2.2.2
      obtain ⟨a4, cap4, b4, off4, rfl, hl4, HA4, HC4, _⟩ := hIH.opened
      have hwb := HS6.out.b
      have d := (hwb.cell (p := ⟨b2, off2 + p * 2 + 1, none⟩) hb2).trans hc
      have HWB := Lib.hid hwb
      clear hin hin0 hin1 hc hIH hxs hwb
      subst ha2
      go_wp2
      clear c0 c1 c2 c3 y0 y1 y2 x0 x1 x2 x3 d
      go_loopw [13, 15] (fun out i wr => ∃ j : Nat, j ≤ xs.length ∧ i = .int .i64 j ∧ Hid (wr.ownsRow w6.heap.size 3 1 out (leftTo xs Y1 j).length ((leftTo xs Y1 j).map (Value.int .i64))) ∧ Hid (Below w6.heap.size w6 wr)) (fun _ i _ => xs.length - (intOf i).toNat)
      case atStart => exact ⟨0, Nat.zero_le _, rfl, World.ownsRow_nil _ _ _ _, Below.refl _ _⟩
      case round =>
        obtain ⟨j, hj, rfl, hown, hbr⟩ := hrel
        obtain ⟨oA, ocap, rfl, _⟩ := own_form hown.out
        obtain ⟨y0, y1, y2⟩ := box3_of (HY6.out.next hbr.out)
        have hle := leftTo_le xs Y1 j
        by_cases hjl : j < xs.length
        · have hj0 : (0 : Int) ≤ (j : Int) := by omega
          have hj1 : (j : Int) < (xs.length : Int) := by omega
          obtain ⟨rfl, hb4⟩ := HA4.out (by omega)
          have d := ((HWB.out.trans (hbr.out.mono HWB.out.size)).cell (p := ⟨b4, off4 + j, none⟩) hb4).trans (HC4.out j hjl)
          cases hq : (nth xs j != Y1)
          · have HN := Lib.hid (leftTo_no (h := Y1) hjl (by simpa using hq))
            go_wp2
            go_quiet (fail)
            go_wp2
            exact ⟨⟨j + 1, by omega, by go_num, by rw [HN.out]; exact own_below hown.out (drewN_below (Below.refl _ _) _), drewN_below hbr.out _⟩, by simp [intOf]; omega⟩
          · have HN := Lib.hid (leftTo_yes (h := Y1) hjl (by simpa using hq))
            go_wp2
            go_quiet (fail)
            generalize hwd : wr.drewN _ = wd at d y0 y1 y2 ⊢
            have hownd := Lib.hid (show wd.ownsRow _ _ _ _ _ _ from by rw [← hwd]; exact own_below hown.out (drewN_below (Below.refl _ wr) _))
            have hbrd := Lib.hid (show Below w6.heap.size w6 wd from by rw [← hwd]; exact drewN_below hbr.out _)
            have d' : wd.cell? ⟨b4, off4 + j, none⟩ = some (.int .i64 (nth xs j)) := ((HWB.out.trans (hbrd.out.mono HWB.out.size)).cell (p := ⟨b4, off4 + j, none⟩) hb4).trans (HC4.out j hjl)
            clear hwd d y0 y1 y2
            go_wp2_with (at_builtin; refine wpList_append_own _ rfl _ _ 26 rfl w6.heap.size 3 i0 (.int .i64 0) 1 8 Try.underlying26 hi hz0 hz1 hz2 rfl (by decide) _ _ _ rfl (hownd.out.alloc _) ⟨wd.heap.size, 0, none⟩ 1 1 [.int .i64 (nth xs j)] rfl rfl ?c1 ?c2 ?c3 ?c4 ?c5 ?_)
            case c1 => exact cell_one_new _ _ _
            case c2 => simp [Value.oneCell']
            case c3 => unfold maxLen; omega
            case c4 => omega
            case c5 => have := hbrd.out.size; simp; omega
            intro v' w8 hown' hgrow _
            have hw8 : Below w6.heap.size w6 w8 := (hbrd.out.alloc hbrd.out.size _).grown hgrow (by have := hbrd.out.size; simp; omega) (fun j e => (hownd.out.lt j e).1)
            have HOA := Lib.hid (show w8.ownsRow w6.heap.size 3 1 v' (leftTo xs Y1 (j + 1)).length ((leftTo xs Y1 (j + 1)).map (Value.int .i64)) from by
              rw [HN.out, List.length_append, List.map_append]; exact hown')
            have HW1 := Lib.hid hw8
            clear hown' hgrow hw8
            go_wp2
            exact ⟨⟨j + 1, by omega, by go_num, HOA, HW1⟩, by simp [intOf]; omega⟩
        · obtain rfl : xs.length = j := by omega
          have hfl : leftTo xs Y1 xs.length = xs.filter (fun x => decide (x ≠ Y1)) := by unfold leftTo; rw [List.take_length]
          have hown2 := own_base hown.out HEU6.out.b.size
          have hbe := HEU6.out.next hbr.out
          have hae := HEA6.out.next hbr.out
          obtain ⟨⟨t0, t1, t2, t3⟩, _⟩ := box4f_of hbe.o
          obtain ⟨gg, gc, hgv, ⟨z, hz, hz1c⟩, hff, hgu, hgl, hset⟩ := hbe.heats hp hown2 (fun x hx => hII.out x (List.mem_of_mem_take (List.mem_filter.1 hx).1))
          injection hgv with hgv _ hgc
          subst hgc hgv
          have f1 := hff (p * 2 + 1)
          obtain ⟨hs, _, hrow, _⟩ := hbe.c.parts
          have HSA := Lib.hid (hae.otherRow (o := p * 2 + 1) (u := .slice oA (leftTo xs Y1 xs.length).length ocap) hrow rfl (fun q => HAP.out _ q rfl))
          have HSU := Lib.hid hset
          have HFL := Lib.hid hfl
          clear hfl hown2 hbe hae hff hset hrow
          go_wp2_with fail
          go_meet
          refine ⟨HSA, ?_⟩
          rw [HPP.out, ← HFL.out]
          exact HSU
  case rest =>
    obtain ⟨hca, hcu⟩ := hcut
    have HSA := Lib.hid (hca.out.stat HS3.out.b)
    have HSU := Lib.hid (hcu.out.stat HS3.out.b)
    have HS7 := Lib.hid (HS3.out.next hca.out.b)
    have HX7 := Lib.hid (HX3.out.next hca.out.b)
    clear c0 c1 c2 c3 y0 y1 y2 x0 x1 x2 x3 hca hcu
    obtain ⟨c0, c1, c2, c3⟩ := box4_of HS7.out.blk
    obtain ⟨x0, x1, x2, x3⟩ := box4_of HX7.out
    obtain ⟨o0, o1, o2, o3⟩ := box4_of HSA.out.blk
    obtain ⟨t0, t1, t2, t3⟩ := box4_of HSU.out.blk
    go_wp2_with fail
    refine (inside_any _ _ _ S P R C D _ HSA.out.st HS7.out.st (lessW_inside HV.out h0 h1)).mono ?_
    rintro e w8 ⟨rfl, hb⟩
    have HSU8 := Lib.hid (HSU.out.next hb)
    have HS8 := Lib.hid (HS7.out.next hb)
    have HX8 := Lib.hid (HX7.out.next hb)
    clear hb c0 c1 c2 c3 x0 x1 x2 x3 o0 o1 o2 o3 t0 t1 t2 t3
    obtain ⟨c0, c1, c2, c3⟩ := box4_of HS8.out.blk
    obtain ⟨x0, x1, x2, x3⟩ := box4_of HX8.out
    obtain ⟨t0, t1, t2, t3⟩ := box4_of HSU8.out.blk
    go_wp2_with fail
    refine (inside_any _ _ _ S P R C D _ HSU8.out.st HS8.out.st (betterP_inside HV.out)).mono ?_
    rintro e w9 ⟨rfl, hb⟩
    have HB9 := Lib.hid (HS8.out.next hb).b
    clear hb c0 c1 c2 c3 x0 x1 x2 x3 t0 t1 t2 t3
    go_wp2_with fail
    refine (works_any _).mono ?_
    rintro e wz ⟨rfl, hb⟩
    have HB := Lib.hid (HB9.out.trans (hb.mono HB9.out.size))
    clear hb
    go_wp2
    go_ret
    exact ⟨rfl, HB.out⟩
end Go.Proofs.Ytjflpmhlodgadaa
