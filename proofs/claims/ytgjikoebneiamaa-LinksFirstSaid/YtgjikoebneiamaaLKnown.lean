/-
  Links, the law's reference: the ends of all truths, how many there are, the least number of sights that are not right.
-/
import Derived.Test.YtgjikoebneiamaaLChoices
import Derived.Test.YtgjikoebneiamaaLJudge2

namespace Go.Proofs.Ytgjikoebneiamaa
open Go.RowKit Go.Shelf

theorem choicesFrom_nil (ds : List Deed) : choicesFrom ds [] = choicesL ds := by simp [choicesFrom]
theorem choices_pos : ∀ ds : List Deed, 0 < (choicesL ds).length
  | [] => by simp [choicesL]
  | d :: ds => by
    have := choices_pos ds
    simp only [choicesL]
    split <;> simp <;> omega
theorem choice_i64 : ∀ {ds : List Deed} {es : List Int}, (∀ d ∈ ds, 0 ≤ d.from_ ∧ d.from_ ≤ 2) → es ∈ choicesL ds → ∀ x ∈ es, I64 x
  | [], es, _, h, x, hx => by simp [choicesL] at h; subst h; cases hx
  | d :: ds, es, hd, h, x, hx => by
    have hf := hd d (.head _)
    have ih := fun e he => choice_i64 (ds := ds) (es := e) (fun y hy => hd y (.tail _ hy)) he
    simp only [choicesL] at h
    split at h
    · obtain ⟨e, he, rfl⟩ := List.mem_map.1 h
      rcases List.mem_cons.1 hx with rfl | hx
      · unfold I64; omega
      · exact ih e he x hx
    · rcases List.mem_append.1 h with h | h
      · obtain ⟨e, he, rfl⟩ := List.mem_map.1 h
        rcases List.mem_cons.1 hx with rfl | hx
        · unfold I64; omega
        · exact ih e he x hx
      · obtain ⟨e, he, rfl⟩ := List.mem_map.1 h
        rcases List.mem_cons.1 hx with rfl | hx
        · unfold I64; omega
        · exact ih e he x hx
theorem valid_froms {C : Chain} (h : Valid C) : ∀ d ∈ C.deeds, 0 ≤ d.from_ ∧ d.from_ ≤ 2 := fun d hd => by
  obtain ⟨i, hi, rfl⟩ := List.getElem_of_mem hd
  have := deedIs (h.deed i hi)
  rw [dnth_lt hi] at this
  cases this <;> omega
theorem choice_at {C : Chain} (hV : Valid C) {k : Nat} (hk : k < (choicesL C.deeds).length) : (xnth (choicesL C.deeds) k).length = C.deeds.length ∧ ∀ x ∈ xnth (choicesL C.deeds) k, I64 x := by
  have hm : xnth (choicesL C.deeds) k ∈ choicesL C.deeds := by rw [xnth_lt hk]; exact List.getElem_mem hk
  exact ⟨choice_len ((mem_choicesL hV.from_le).1 hm), choice_i64 (valid_froms hV) hm⟩
/-- A row that is listed. -/
theorem ListsAt.row {w : World} {base n c g i : Nat} {xs : List (List Int)} (h : ListsAt w base (.slice (some ⟨g, 0, none⟩) n c) xs) (hi : i < xs.length) : ∃ v, w.cell? ⟨g, i, none⟩ = some v ∧ OwnInts w v (xnth xs i) := by
  obtain ⟨g', c', v, e, h1, h2⟩ := h.get hi
  injection e with e _ _
  injection e with e
  injection e with e
  subst e
  exact ⟨v, h1, h2⟩
/-- Those of the first k choices that are truths. -/
def truthsTo (C : Chain) (k : Nat) : List (List Int) := ((choicesL C.deeds).take k).filter (fun e => decide (wrongs C e ≤ C.wrong))
theorem take_snoc {α : Type} {l : List α} {k : Nat} (h : k < l.length) : l.take (k + 1) = l.take k ++ [l[k]] := by rw [List.take_add_one]; simp [h]
theorem truthsTo_yes {C : Chain} {k : Nat} (hk : k < (choicesL C.deeds).length) (h : wrongs C (xnth (choicesL C.deeds) k) ≤ C.wrong) : truthsTo C (k + 1) = truthsTo C k ++ [xnth (choicesL C.deeds) k] := by
  rw [xnth_lt hk] at h ⊢
  simp only [truthsTo, take_snoc hk, List.filter_append]
  simp [h]
theorem truthsTo_no {C : Chain} {k : Nat} (hk : k < (choicesL C.deeds).length) (h : ¬ wrongs C (xnth (choicesL C.deeds) k) ≤ C.wrong) : truthsTo C (k + 1) = truthsTo C k := by
  rw [xnth_lt hk] at h
  simp only [truthsTo, take_snoc hk, List.filter_append]
  simp [h]
theorem truthsTo_all (C : Chain) : truthsTo C (choicesL C.deeds).length = truthsR C := by simp [truthsTo, truthsR]
theorem truthsTo_le (C : Chain) (k : Nat) : (truthsTo C k).length ≤ k := by
  have := List.length_filter_le (fun e => decide (wrongs C e ≤ C.wrong)) ((choicesL C.deeds).take k)
  simp only [truthsTo]
  simp at this ⊢
  omega
def knownL (C : Chain) (is : Bool) : List (List Int) := if validB C = true ∧ is = true then truthsR C else []
def knownE (C : Chain) (is : Bool) : Int := if validB C = true then (if is = true then noneE (truthsR C).length else 1) else 20
theorem lists_nil (w : World) (base : Nat) : ListsAt w base (.slice none 0 0) [] := ⟨[], rfl, World.ownsRow_nil _ _ _ _, fun i hi => by simp at hi⟩

set_option maxRecDepth 100000 in
set_option maxHeartbeats 8000000 in
theorem known_any (v : Value) (is : Bool) (C : Chain) (w : World) (hx : ChainAt w.heap.size w v C) :
    Calls Try.prog 76 #[v, .bool is] w fun e w' => ∃ q, e = .returned (.tuple #[q, .int .i64 (knownE C is)]) ∧ ListsAt w' w.heap.size q (knownL C is) ∧ Below w.heap.size w w' := by
  obtain ⟨iI, hiI, hzI0, hzI1, hzI2⟩ := info_parts Try_infoInts
  have hx' := hx
  obtain ⟨a, cap, b, off, a2, cap2, b2, off2, rfl, hm, hm2, hcap, hcapm, HA, HC, HA2, HC2, HI, HI2⟩ := hx.opened
  have HS0 := Lib.hid (LStat.first hx')
  obtain ⟨c0, c1, c2⟩ := HS0.out.cells
  clear hx hx' HA HC HA2 HC2 HI HI2
  cases hv : validB C
  case false =>
    have HV := Lib.hid hv
    clear hv
    go_enter Try.func76, Try.ntmps76
    go_wp2_with fail
    refine (rCheck_to (chkS_bad HV.out) HS0.out.st).mono ?_
    rintro e w1 ⟨rfl, hb1⟩
    have HB := Lib.hid (HS0.out.next hb1).b
    clear hb1
    go_wp2
    go_ret2
    refine ⟨_, by simp only [knownE, HV.out]; rfl, by simp only [knownL, HV.out]; exact lists_nil _ _, HB.out⟩
  have HV := Lib.hid hv
  have hV' := valid_iff.1 hv
  have HV' := Lib.hid hV'
  have hnd := hV'.nd
  have hns := hV'.ns
  clear hv hV'
  cases his : is
  case false =>
    go_enter Try.func76, Try.ntmps76
    go_wp2_with fail
    refine (rCheck_to (chkS_ok HV.out) HS0.out.st).mono ?_
    rintro e w1 ⟨rfl, hb1⟩
    have HS1 := Lib.hid (HS0.out.next hb1)
    clear hb1 c0 c1 c2
    obtain ⟨c0, c1, c2⟩ := HS1.out.cells
    go_wp2
    go_ret2
    exact ⟨_, by simp only [knownE, HV.out]; rfl, by rw [show knownL C false = [] by simp [knownL]]; exact lists_nil _ _, HS1.out.b⟩
  clear his is
  go_enter Try.func76, Try.ntmps76
  go_wp2_with fail
  refine (rCheck_to (chkS_ok HV.out) HS0.out.st).mono ?_
  rintro e w1 ⟨rfl, hb1⟩
  have HS1 := Lib.hid (HS0.out.next hb1)
  clear hb1 c0 c1 c2
  obtain ⟨c0, c1, c2⟩ := HS1.out.cells
  go_wp2_with fail
  refine (choices_any C HV.out C.deeds.length [] _ _ _ (by simp) HS1.out.st (OwnInts.nil _)).mono ?_
  rintro e w2 ⟨q, rfl, hls, _, hb2⟩
  rw [choicesFrom_nil] at hls
  have HS2 := Lib.hid (HS1.out.next hb2)
  obtain ⟨N, hN⟩ : ∃ N, (choicesL C.deeds).length = N := ⟨_, rfl⟩
  have hN4 : N ≤ 4096 := by have := choicesFrom_len C hnd []; rw [choicesFrom_nil] at this; omega
  obtain ⟨lg, lc, _, rfl, _, _⟩ := hls.get (i := 0) (choices_pos _)
  have HLS := Lib.hid (hls.lower (Nat.zero_le _))
  rw [hN] at HLS ⊢
  have HN := Lib.hid hN
  clear hb2 hls hN c0 c1 c2
  obtain ⟨c0, c1, c2⟩ := HS2.out.cells
  go_wp2_with fail
  go_loopw [7, 9] (fun o i wr => ∃ k : Nat, k ≤ N ∧ i = .int .i64 k ∧ Hid (ListsAt wr w2.heap.size o (truthsTo C k)) ∧ Hid (Below w2.heap.size w2 wr)) (fun _ i _ => N - (intOf i).toNat)
  case atStart => exact ⟨0, Nat.zero_le _, rfl, lists_nil _ _, Below.refl _ _⟩
  case round =>
    obtain ⟨k, hk, rfl, hlists, hbl⟩ := hrel
    clear c0 c1 c2
    have HSR := Lib.hid (HS2.out.next hbl.out)
    obtain ⟨c0, c1, c2⟩ := HSR.out.cells
    obtain ⟨vs, l1, l2, l3⟩ := hlists.out
    obtain ⟨oA, oc, rfl, _⟩ := own_form l2
    have L1 := Lib.hid l1
    have L2 := Lib.hid l2
    have L3 := Lib.hid l3
    have hTl := truthsTo_le C k
    obtain ⟨T, hTT⟩ : ∃ T, (truthsTo C k).length = T := ⟨_, rfl⟩
    rw [hTT] at hlists L2 hTl ⊢
    have HTT := Lib.hid hTT
    clear l1 l2 l3 hTT
    by_cases hlt : k < N
    · obtain ⟨x, hcell, hrow⟩ := (HLS.out.below hbl.out).row (i := k) (by rw [HN.out]; omega)
      have hxl := (choice_at HV'.out (k := k) (by rw [HN.out]; omega)).1
      obtain ⟨xA, xc, rfl, _⟩ := own_form hrow
      rw [hxl] at hcell hrow
      have HXR := Lib.hid hrow
      have HXL := Lib.hid (choice_at HV'.out (k := k) (by rw [HN.out]; omega))
      obtain ⟨t, ht⟩ : ∃ t, wrongs C (xnth (choicesL C.deeds) k) = t := ⟨_, rfl⟩
      have HT := Lib.hid ht
      have hcl := block_lt_of_cell hcell
      have HCE := Lib.hid hcell
      have hk0 : (0 : Int) ≤ (k : Nat) := by omega
      have hk1 : ((k : Nat) : Int) < (N : Int) := by omega
      clear hrow ht hcell hxl
      go_upto_region 11 with fail
      clear c0 c1 c2
      refine wp_region_facts _ 9 [25, 26, 27, 28, 29, 30, 31, 32, 33] [isV (.agg #[.slice a C.deeds.length cap, .slice a2 C.sights.length cap2, .int .i64 C.wrong]), isV (.slice (some ⟨lg, 0, none⟩) N lc), isV (.int .i64 (k : Int)), isV (.pointer (some ⟨lg, k, none⟩)), isV (.slice xA C.deeds.length xc), isV (.int .i64 t), isV (.pointer (some ⟨w.heap.size, 2, none⟩)), isV (.int .i64 C.wrong), isV (.bool (decide (t ≤ C.wrong)))] (by kernel_rfl) (by kernel_rfl) (by kernel_rfl) rfl (by decide) (by decide) (by simp) ?step ?rest
      case step =>
        intro i ac W d hi hd hb hoff hdep
        have hs := HSR.out.next hb
        obtain ⟨c0, c1, c2⟩ := hs.cells
        have hcell := (hb.cell hcl).trans HCE.out
        have hi2 : i = 0 ∨ i = 1 ∨ i = 2 ∨ i = 3 ∨ i = 4 ∨ i = 5 ∨ i = 6 ∨ i = 7 ∨ i = 8 := by omega
        rcases hi2 with rfl | rfl | rfl | rfl | rfl | rfl | rfl | rfl | rfl
        · obtain rfl : 25 = d := by simpa using hd
          have q2 : ac.tmps[2]?.getD undef = .pointer (some ⟨w.heap.size, 0, none⟩) := (eval_tmp _ _).symm.trans <| (hoff 2 (by decide)).trans rfl
          refine fact_value rfl rfl rfl (v := .agg #[.slice a C.deeds.length cap, .slice a2 C.sights.length cap2, .int .i64 C.wrong]) (W' := W) ?_ (Below.refl _ _) rfl
          simp only [execOp]
          go_simp
        · obtain rfl : 26 = d := by simpa using hd
          have q8 : ac.tmps[8]?.getD undef = .slice (some ⟨lg, 0, none⟩) N lc := (eval_tmp _ _).symm.trans <| (hoff 8 (by decide)).trans rfl
          refine fact_value rfl rfl rfl (v := .slice (some ⟨lg, 0, none⟩) N lc) (W' := W) ?_ (Below.refl _ _) rfl
          simp only [execOp]
          go_simp
        · obtain rfl : 27 = d := by simpa using hd
          have q9 : ac.tmps[9]?.getD undef = .int .i64 (k : Int) := (eval_tmp _ _).symm.trans <| (hoff 9 (by decide)).trans rfl
          refine fact_value rfl rfl rfl (v := .int .i64 (k : Int)) (W' := W) ?_ (Below.refl _ _) rfl
          simp only [execOp]
          go_simp
        · obtain rfl : 28 = d := by simpa using hd
          have q26 : ac.tmps[26]?.getD undef = .slice (some ⟨lg, 0, none⟩) N lc := (eval_tmp _ _).symm.trans (hdep 1 26 rfl rfl)
          have q27 : ac.tmps[27]?.getD undef = .int .i64 (k : Int) := (eval_tmp _ _).symm.trans (hdep 2 27 rfl rfl)
          refine fact_value rfl rfl rfl (v := .pointer (some ⟨lg, k, none⟩)) (W' := W) ?_ (Below.refl _ _) rfl
          simp only [execOp]
          go_simp
        · obtain rfl : 29 = d := by simpa using hd
          have q28 : ac.tmps[28]?.getD undef = .pointer (some ⟨lg, k, none⟩) := (eval_tmp _ _).symm.trans (hdep 3 28 rfl rfl)
          refine fact_value rfl rfl rfl (v := .slice xA C.deeds.length xc) (W' := W) ?_ (Below.refl _ _) rfl
          simp only [execOp]
          go_simp
        · obtain rfl : 30 = d := by simpa using hd
          have q25 : ac.tmps[25]?.getD undef = .agg #[.slice a C.deeds.length cap, .slice a2 C.sights.length cap2, .int .i64 C.wrong] := (eval_tmp _ _).symm.trans (hdep 0 25 rfl rfl)
          have q29 : ac.tmps[29]?.getD undef = .slice xA C.deeds.length xc := (eval_tmp _ _).symm.trans (hdep 4 29 rfl rfl)
          refine fact_call rfl rfl rfl (f := 49) (args := #[.agg #[.slice a C.deeds.length cap, .slice a2 C.sights.length cap2, .int .i64 C.wrong], .slice xA C.deeds.length xc]) ?_ ?_
          · simp only [execOp]
            go_simp
          · refine (Wrongs_to HT.out HV.out HXL.out.1 hs.st (((HXR.out.below hb).ints HXL.out.2))).mono ?_
            rintro e W' ⟨rfl, hbk⟩
            exact ⟨_, rfl, hbk, rfl⟩
        · obtain rfl : 31 = d := by simpa using hd
          have q2 : ac.tmps[2]?.getD undef = .pointer (some ⟨w.heap.size, 0, none⟩) := (eval_tmp _ _).symm.trans <| (hoff 2 (by decide)).trans rfl
          refine fact_value rfl rfl rfl (v := .pointer (some ⟨w.heap.size, 2, none⟩)) (W' := W) ?_ (Below.refl _ _) rfl
          simp only [execOp]
          go_simp
        · obtain rfl : 32 = d := by simpa using hd
          have q31 : ac.tmps[31]?.getD undef = .pointer (some ⟨w.heap.size, 2, none⟩) := (eval_tmp _ _).symm.trans (hdep 6 31 rfl rfl)
          refine fact_value rfl rfl rfl (v := .int .i64 C.wrong) (W' := W) ?_ (Below.refl _ _) rfl
          simp only [execOp]
          go_simp
        · obtain rfl : 33 = d := by simpa using hd
          have q30 : ac.tmps[30]?.getD undef = .int .i64 t := (eval_tmp _ _).symm.trans (hdep 5 30 rfl rfl)
          have q32 : ac.tmps[32]?.getD undef = .int .i64 C.wrong := (eval_tmp _ _).symm.trans (hdep 7 32 rfl rfl)
          refine fact_value rfl rfl rfl (v := .bool (decide (t ≤ C.wrong))) (W' := W) ?_ (Below.refl _ _) rfl
          simp only [execOp]
          go_simp
      case rest =>
        intro vs W2 hvl hbx hval
        obtain ⟨y0, y1, y2, y3, y4, y5, y6, y7, y8, rfl⟩ : ∃ y0 y1 y2 y3 y4 y5 y6 y7 y8, vs = [y0, y1, y2, y3, y4, y5, y6, y7, y8] := by
          match vs, hvl with
          | [y0, y1, y2, y3, y4, y5, y6, y7, y8], _ => exact ⟨y0, y1, y2, y3, y4, y5, y6, y7, y8, rfl⟩
        obtain rfl : y0 = .agg #[.slice a C.deeds.length cap, .slice a2 C.sights.length cap2, .int .i64 C.wrong] := by obtain ⟨u, e, h⟩ := hval 0 (by omega); have e2 : some y0 = some u := e; injection e2 with e2; subst e2; exact h
        obtain rfl : y1 = .slice (some ⟨lg, 0, none⟩) N lc := by obtain ⟨u, e, h⟩ := hval 1 (by omega); have e2 : some y1 = some u := e; injection e2 with e2; subst e2; exact h
        obtain rfl : y2 = .int .i64 (k : Int) := by obtain ⟨u, e, h⟩ := hval 2 (by omega); have e2 : some y2 = some u := e; injection e2 with e2; subst e2; exact h
        obtain rfl : y3 = .pointer (some ⟨lg, k, none⟩) := by obtain ⟨u, e, h⟩ := hval 3 (by omega); have e2 : some y3 = some u := e; injection e2 with e2; subst e2; exact h
        obtain rfl : y4 = .slice xA C.deeds.length xc := by obtain ⟨u, e, h⟩ := hval 4 (by omega); have e2 : some y4 = some u := e; injection e2 with e2; subst e2; exact h
        obtain rfl : y5 = .int .i64 t := by obtain ⟨u, e, h⟩ := hval 5 (by omega); have e2 : some y5 = some u := e; injection e2 with e2; subst e2; exact h
        obtain rfl : y6 = .pointer (some ⟨w.heap.size, 2, none⟩) := by obtain ⟨u, e, h⟩ := hval 6 (by omega); have e2 : some y6 = some u := e; injection e2 with e2; subst e2; exact h
        obtain rfl : y7 = .int .i64 C.wrong := by obtain ⟨u, e, h⟩ := hval 7 (by omega); have e2 : some y7 = some u := e; injection e2 with e2; subst e2; exact h
        obtain rfl : y8 = .bool (decide (t ≤ C.wrong)) := by obtain ⟨u, e, h⟩ := hval 8 (by omega); have e2 : some y8 = some u := e; injection e2 with e2; subst e2; exact h
        clear hval hvl
        have HBX := Lib.hid hbx
        have hcell := (hbx.cell hcl).trans HCE.out
        have hsx := hbx.size
        have hsr := hbl.out.size
        clear hbx
        simp only [putL, Act.put, List.drop, List.setIfInBounds_toArray, List.set_cons_zero, List.set_cons_succ]
        by_cases hr : t ≤ C.wrong
        · have hrb : decide (t ≤ C.wrong) = true := decide_eq_true hr
          have HR := Lib.hid (truthsTo_yes (C := C) (k := k) (by rw [HN.out]; omega) (by rw [HT.out]; exact hr))
          go_wp2_with (at_builtin; (refine wpList_append_own _ rfl (.tmp 34) (.tmp 39) 88 rfl w2.heap.size 33 iI (.slice none 0 0) 1 24 Try.underlying88 hiI hzI0 hzI1 hzI2 rfl (by decide) (.slice oA T oc) T vs rfl ((own_below L2.out HBX.out).alloc _) ⟨W2.heap.size, 0, none⟩ 1 1 [.slice xA C.deeds.length xc] rfl rfl ?f1 ?f2 ?f3 ?f4 ?f5 ?_))
          case f2 => first | exact one_row HXR.out | (intro u hu; simp at hu; subst hu; exact one_row HXR.out)
          case f3 => unfold maxLen; omega
          case f4 => omega
          case f5 => first | omega | (simp; omega)
          intro v' w5 hown' hgrow _
          have hL5 := (ListsAt.snoc (w := W2.alloc (.cells #[.slice xA C.deeds.length xc] 33)) (xs := truthsTo C k) L1.out (by rw [HTT.out]; exact (own_below L2.out HBX.out).alloc _) (fun i hi => by
            obtain ⟨v, h4, h5⟩ := L3.out i hi
            exact ⟨v, h4, (h5.below HBX.out).below ((Below.refl _ _).alloc (Nat.le_refl _) _)⟩) ((HXR.out.below HBX.out).below ((Below.refl _ _).alloc (Nat.le_refl _) _)) hgrow (by rw [HTT.out]; exact hown')).1
          have HL5 := Lib.hid hL5
          have HF := Lib.hid (((hbl.out.trans (HBX.out.mono hsr)).alloc (by omega) (.cells #[.slice xA C.deeds.length xc] 33)).grown hgrow (by simp; omega) (fun j e => ((own_below L2.out HBX.out).lt j e).1))
          clear hown' hgrow hL5
          go_wp2
          exact ⟨⟨k + 1, by omega, by go_num, by rw [HR.out]; exact HL5.out, HF.out⟩, by simp [intOf]; omega⟩
        · have hrb : decide (t ≤ C.wrong) = false := decide_eq_false hr
          have HR := Lib.hid (truthsTo_no (C := C) (k := k) (by rw [HN.out]; omega) (by rw [HT.out]; exact hr))
          go_wp2
          exact ⟨⟨k + 1, by omega, by go_num, by rw [HR.out]; exact ListsAt.below hlists.out HBX.out, hbl.out.trans (HBX.out.mono hsr)⟩, by simp [intOf]; omega⟩
    · obtain rfl : N = k := by omega
      have HALL := Lib.hid (show truthsTo C N = truthsR C from HN.out ▸ truthsTo_all C)
      have HKE := Lib.hid (show knownE C true = noneE T by simp only [knownE, HV.out, if_true]; rw [← HALL.out, HTT.out])
      by_cases hT0 : T = 0
      · have h0 : ((T : Int) == 0) = true := by rw [hT0]; rfl
        go_wp2
        go_ret2
        refine ⟨_, by rw [HKE.out, hT0]; rfl, ?_, HS2.out.b.trans (hbl.out.mono HS2.out.b.size)⟩
        rw [show knownL C true = [] by
          rw [knownL, if_pos ⟨HV.out, rfl⟩, ← HALL.out]
          exact List.length_eq_zero_iff.1 (HTT.out.trans hT0)]
        exact lists_nil _ _
      · have h0 : ((T : Int) == 0) = false := beq_eq_false_iff_ne.2 (by omega)
        go_wp2
        go_ret2
        refine ⟨_, by rw [HKE.out, noneE, if_neg hT0]; rfl, ?_, HS2.out.b.trans (hbl.out.mono HS2.out.b.size)⟩
        rw [show knownL C true = truthsR C by rw [knownL, if_pos ⟨HV.out, rfl⟩], ← HALL.out]
        exact hlists.out.lower HS2.out.b.size

end Go.Proofs.Ytgjikoebneiamaa
