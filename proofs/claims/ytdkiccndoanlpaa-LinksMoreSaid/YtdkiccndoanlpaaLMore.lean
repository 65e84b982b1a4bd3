/-
  A law's body: one more sight (P2.13).
-/
import Derived.Test.YtdkiccndoanlpaaLTwo
import Derived.Test.YtdkiccndoanlpaaLMoreM
import Derived.Test.YtdkiccndoanlpaaLSure
import Derived.Test.YtdkiccndoanlpaaLContra
import Derived.Deep.DeepCutAuto
namespace Go.Proofs.Ytdkiccndoanlpaa
open Go.RowKit

theorem scells_snoc (ss : List Sight) (s : Sight) : scells (ss ++ [s]) (ss.length + 1) = scells ss ss.length ++ [.int .i64 s.after, .int .i64 s.at_, .int .i64 s.from_, .int .i64 s.bar, .int .i64 s.smith] := by
  have hold : ∀ i, i < ss.length → snth (ss ++ [s]) i = snth ss i := fun i hi => by simp [snth, List.getD_eq_getElem?_getD, List.getElem?_append_left hi]
  have hnew : snth (ss ++ [s]) ss.length = s := by simp [snth]
  apply List.ext_getElem?
  intro j
  by_cases hj : j < ss.length * 5
  · have hr : j % 5 < 5 := Nat.mod_lt _ (by omega)
    have e : j = j / 5 * 5 + j % 5 := by omega
    rw [List.getElem?_append_left (by rw [scells_len]; exact hj), e, scells_at _ (by omega) hr, scells_at _ (by omega) hr, hold _ (by omega)]
  · rw [List.getElem?_append_right (by rw [scells_len]; omega), scells_len]
    by_cases hj2 : j < ss.length * 5 + 5
    · obtain ⟨r, rfl⟩ : ∃ r, j = ss.length * 5 + r := ⟨j - ss.length * 5, by omega⟩
      have hr : r < 5 := by omega
      rw [scells_at _ (by omega) hr, hnew, show ss.length * 5 + r - ss.length * 5 = r by omega]
      match r, hr with
      | 0, _ => rfl
      | 1, _ => rfl
      | 2, _ => rfl
      | 3, _ => rfl
      | 4, _ => rfl
    · rw [List.getElem?_eq_none (by rw [scells_len]; omega), List.getElem?_eq_none (by simp; omega)]
theorem box5 {w : World} {b : Nat} {v0 v1 v2 v3 v4 : Value} {t : TypeId} (e : w.heap[b]? = some (.cells #[v0, v1, v2, v3, v4] t)) :
    w.cell? ⟨b, 0, none⟩ = some v0 ∧ w.cell? ⟨b, 1, none⟩ = some v1 ∧ w.cell? ⟨b, 2, none⟩ = some v2 ∧ w.cell? ⟨b, 3, none⟩ = some v3 ∧ w.cell? ⟨b, 4, none⟩ = some v4 := by
  refine ⟨?_, ?_, ?_, ?_, ?_⟩ <;> simp [World.cell?, e]
theorem LStat.alloc {w W : World} {b : Nat} {x0 x1 x2 : Value} {C : Chain} (h : LStat w W b x0 x1 x2 C) (o : Obj) : LStat w (W.alloc o) b x0 x1 x2 C := h.next ((Below.refl _ W).alloc (Nat.le_refl _) o)
/-- One more sight in a copy's own row. -/
theorem more_chain {lo : Nat} {W W' : World} {f1 f2 q : Option Addr} {n p1 p2 qc : Nat} {C : Chain} {s : Sight} (h : CopyAt lo W (.agg #[.slice f1 n p1, .slice f2 C.sights.length p2, .int .i64 C.wrong]) C) (hs : SI64 s)
    (hd : W'.ownsRow lo 55 5 (.slice f1 n p1) n (dcells C.deeds C.deeds.length)) (hr : W'.ownsRow lo 60 5 (.slice q (C.sights.length + 1) qc) (C.sights.length + 1) (scells C.sights C.sights.length ++ [.int .i64 s.after, .int .i64 s.at_, .int .i64 s.from_, .int .i64 s.bar, .int .i64 s.smith])) (hn : n = C.deeds.length) :
    ChainAt W'.heap.size W' (.agg #[.slice f1 n p1, .slice q (C.sights.length + 1) qc, .int .i64 (moreS C s).wrong]) (moreS C s) := by
  obtain ⟨dv, sv, e, h1, h2, hw⟩ := h
  subst hn
  refine ⟨_, _, rfl, deeds_of_own hd hw.deeds, ?_, hw.wrong⟩
  rw [← scells_snoc] at hr
  have hl : (moreS C s).sights.length = C.sights.length + 1 := moreS_len C s
  have := sights_of_own (ss := C.sights ++ [s]) (base := lo) (v := .slice q (C.sights.length + 1) qc) (w := W') (by simpa using hr) (fun i hi => by
    rw [show (C.sights ++ [s]).length = C.sights.length + 1 by simp] at hi
    by_cases e : i < C.sights.length
    · have := moreS_old (C := C) (s := s) e
      rw [show (moreS C s).sights = C.sights ++ [s] from rfl] at this
      rw [this]; exact hw.sights i e
    · obtain rfl : i = C.sights.length := by omega
      have := moreS_new (C := C) (s := s)
      rw [show (moreS C s).sights = C.sights ++ [s] from rfl] at this
      rw [this]; exact hs)
  exact this

set_option maxRecDepth 100000 in
set_option maxHeartbeats 16000000 in
theorem LinksMore_any (v : Value) (C : Chain) (s : Sight) (X0 X1 X2 : Int) (w : World) (hx : ChainAt w.heap.size w v C) (hs : SI64 s) (hX0 : I64 X0) (hdl : C.deeds.length ≤ 3518437208780) (hsl : C.sights.length ≤ 3518437208780) :
    Calls Try.prog 7 #[v, sV s, .agg #[.int .i64 X0, .int .i64 X1, .int .i64 X2]] w fun e w' => e = .returned (.bool true) ∧ Below w.heap.size w w' := by
  have hx' := hx
  obtain ⟨iP, hiP, hzP0, hzP1, hzP2⟩ := info_parts Try_infoSight
  obtain ⟨a, cap, b, off, a2, cap2, b2, off2, rfl, hm, hm2, hcap, hcapm, HA, HC, HA2, HC2, HI, HI2⟩ := hx.opened
  have HS0 := Lib.hid (((LStat.first hx').alloc (.cells #[.int .i64 s.after, .int .i64 s.at_, .int .i64 s.from_, .int .i64 s.bar, .int .i64 s.smith] 60)).alloc (.cells #[.int .i64 X0, .int .i64 X1, .int .i64 X2] 40))
  obtain ⟨e0, e1, e2, hb0, hsz0⟩ := heap3 w (.cells #[.slice a C.deeds.length cap, .slice a2 C.sights.length cap2, .int .i64 C.wrong] 25) (.cells #[.int .i64 s.after, .int .i64 s.at_, .int .i64 s.from_, .int .i64 s.bar, .int .i64 s.smith] 60) (.cells #[.int .i64 X0, .int .i64 X1, .int .i64 X2] 40)
  have HSI := Lib.hid hs
  have HX0 := Lib.hid hX0
  clear hx hx' HA2 HC2 HI2 HI HA HC hs
  unfold sV
  go_enter Try.func7, Try.ntmps7
  go_wp2_with fail
  obtain ⟨W, hW⟩ : ∃ W, W = ((w.alloc (.cells #[.slice a C.deeds.length cap, .slice a2 C.sights.length cap2, .int .i64 C.wrong] 25)).alloc (.cells #[.int .i64 s.after, .int .i64 s.at_, .int .i64 s.from_, .int .i64 s.bar, .int .i64 s.smith] 60)).alloc (.cells #[.int .i64 X0, .int .i64 X1, .int .i64 X2] 40) := ⟨_, rfl⟩
  rw [← hW] at e0 e1 e2 hb0 hsz0 HS0 ⊢
  clear hW
  have E1 := Lib.hid e1
  have E2 := Lib.hid e2
  have hlW : w.heap.size + 2 < W.heap.size := by omega
  clear e0 e1 e2 hsz0
  refine (Copy_any _ C _ HS0.out.st hdl hsl).mono ?_
  rintro e w1 ⟨u, rfl, hcp, hb⟩
  obtain ⟨f1, p1, f2, p2, rfl, hp1, hp2⟩ := hcp.shape
  have HB1 := Lib.hid hb
  have HS1 := Lib.hid (HS0.out.next hb)
  have e1 := (hb.block _ (heap_lt E1.out)).trans E1.out
  have HCP := Lib.hid hcp
  have hs1 := hb.size
  have y := box5 ((Below.heap_alloc w1 (.cells #[.slice f1 C.deeds.length p1, .slice f2 C.sights.length p2, .int .i64 C.wrong] 25) _ (heap_lt e1)).trans e1)
  obtain ⟨y0, y1, y2, y3, y4⟩ := y
  have hl1 := heap_lt e1
  clear hb hcp e1
  go_wp2_with (at_builtin; go_loud (refine wpList_onto (base := W.heap.size) (v := .slice f2 C.sights.length p2) (n := C.sights.length) (xs := scells C.sights C.sights.length) (A := some ⟨w1.heap.size + 1, 0, none⟩) (m := 1) (c := 1) (news := [.int .i64 s.after, .int .i64 s.at_, .int .i64 s.from_, .int .i64 s.bar, .int .i64 s.smith]) rfl (.tmp 23) (.tmp 25) rfl Try.underlying23 hiP hzP0 hzP1 hzP2 rfl (by decide) rfl ?c0 rfl ?c1 (by simp [Value.oneCell']) (by unfold maxLen; omega) (by omega) (by simp; omega) ?_))
  case c0 =>
    obtain ⟨dv, sv, e, h1, h2, _⟩ := HCP.out
    injection e with e
    simp only [Array.mk.injEq, List.cons.injEq, and_true] at e
    obtain ⟨rfl, rfl⟩ := e
    exact (h2.alloc _).alloc _
  case c1 =>
    have hn := heap_new1 w1 (.cells #[.slice f1 C.deeds.length p1, .slice f2 C.sights.length p2, .int .i64 C.wrong] 25) (.cells #[.int .i64 s.after, .int .i64 s.at_, .int .i64 s.from_, .int .i64 s.bar, .int .i64 s.smith] 60)
    exact ⟨rfl, fun _ => ⟨_, rfl, World.news_of_block (fr := (0, 0)) hn⟩⟩
  intro q qc w2 hown2 hgrow2 _
  obtain ⟨W1, hW1⟩ : ∃ W1, W1 = (w1.alloc (.cells #[.slice f1 C.deeds.length p1, .slice f2 C.sights.length p2, .int .i64 C.wrong] 25)).alloc (.cells #[.int .i64 s.after, .int .i64 s.at_, .int .i64 s.from_, .int .i64 s.bar, .int .i64 s.smith] 60) := ⟨_, rfl⟩
  rw [← hW1] at hgrow2
  have hW1s : W1.heap.size = w1.heap.size + 2 := by rw [hW1]; simp
  have hW1b : Below w1.heap.size w1 W1 := by rw [hW1]; exact ((Below.refl _ w1).alloc (Nat.le_refl _) _).alloc (by simp) _
  have hW1o : W1.heap[w1.heap.size]? = some (.cells #[.slice f1 C.deeds.length p1, .slice f2 C.sights.length p2, .int .i64 C.wrong] 25) := by rw [hW1]; exact heap_old1 _ _ _
  clear hW1
  obtain ⟨hd1, hr1⟩ : w1.ownsRow W.heap.size 55 5 (.slice f1 C.deeds.length p1) C.deeds.length (dcells C.deeds C.deeds.length) ∧ w1.ownsRow W.heap.size 60 5 (.slice f2 C.sights.length p2) C.sights.length (scells C.sights C.sights.length) := by
    obtain ⟨dv, sv, e, h1, h2, _⟩ := HCP.out
    injection e with e
    simp only [Array.mk.injEq, List.cons.injEq, and_true] at e
    obtain ⟨rfl, rfl⟩ := e
    exact ⟨h1, h2⟩
  have hlo : ∀ k, (Value.slice f2 C.sights.length p2).ownBlock = some k → W.heap.size ≤ k ∧ k < w1.heap.size := fun k e => hr1.lt k e
  have hb2 : Below W.heap.size W w2 := (HB1.out.trans (hW1b.mono hs1)).grown hgrow2 (by omega) (fun k e => (hlo k e).1)
  have hd2 : w2.ownsRow W.heap.size 55 5 (.slice f1 C.deeds.length p1) C.deeds.length (dcells C.deeds C.deeds.length) := own_kept_type (own_below hd1 hW1b) (own_below hr1 hW1b) (by decide) hgrow2
  have ho2 : w2.heap[w1.heap.size]? = some (.cells #[.slice f1 C.deeds.length p1, .slice f2 C.sights.length p2, .int .i64 C.wrong] 25) := (hgrow2.block _ (by omega) (fun e => by have := (hlo _ e.symm).2; omega)).trans hW1o
  have hsz2 := hgrow2.size
  obtain ⟨⟨o0, o1, o2⟩, of⟩ := box3f_of ho2
  have of1 := of 1
  have HB2 := Lib.hid hb2
  have HD2 := Lib.hid hd2
  have HO2 := Lib.hid ho2
  have HR2 := Lib.hid hown2
  clear hd1 hr1 hlo hb2 hd2 ho2 hgrow2 hown2 hW1b hW1o of y0 y1 y2 y3 y4
  go_upto_region 3 with fail
  obtain ⟨Y, hY⟩ : ∃ Y, Y = w2.setCell ⟨w1.heap.size, 1, none⟩ (.slice q (C.sights.length + 1) qc) := ⟨_, rfl⟩
  have hYo : Y.heap[w1.heap.size]? = some (.cells #[.slice f1 C.deeds.length p1, .slice q (C.sights.length + 1) qc, .int .i64 C.wrong] 25) := by rw [hY, heap_setCell_same HO2.out]; rfl
  have hYb : Below W.heap.size W Y := by rw [hY]; exact below_setCell HB2.out hs1
  have hYd : Y.ownsRow W.heap.size 55 5 (.slice f1 C.deeds.length p1) C.deeds.length (dcells C.deeds C.deeds.length) := by rw [hY]; exact own_setBox HD2.out HO2.out (by decide)
  have hYr : Y.ownsRow W.heap.size 60 5 (.slice q (C.sights.length + 1) qc) (C.sights.length + 1) (scells C.sights C.sights.length ++ [.int .i64 s.after, .int .i64 s.at_, .int .i64 s.from_, .int .i64 s.bar, .int .i64 s.smith]) := by rw [hY]; exact own_setBox HR2.out HO2.out (by decide)
  rw [← hY]
  clear hY o0 o1 o2 of1
  have hOS : LStat w Y w1.heap.size (.slice f1 C.deeds.length p1) (.slice q (C.sights.length + 1) qc) (.int .i64 (moreS C s).wrong) (moreS C s) := ⟨hYo, more_chain HCP.out HSI.out hYd hYr rfl, hb0.trans (hYb.mono (by omega))⟩
  have HOY := Lib.hid hOS
  have HSY := Lib.hid (HS0.out.next hYb)
  have HXY := Lib.hid ((hYb.block _ (heap_lt E2.out)).trans E2.out)
  clear hOS hYo hYb hYd hYr HB2 HD2 HO2 HR2 HCP HS1 HB1
  obtain ⟨c0, c1, c2⟩ := HSY.out.cells
  obtain ⟨o0, o1, o2⟩ := HOY.out.cells
  obtain ⟨x0, x1, x2⟩ := box3c HXY.out
  cases hr : readyB C
  case false =>
    have HR := Lib.hid hr
    clear hr
    go_wp2_with fail
    refine (ready_to HR.out HSY.out.st).mono ?_
    rintro e z1 ⟨rfl, hb⟩
    have HS1 := Lib.hid (HSY.out.next hb)
    clear hb c0 c1 c2 o0 o1 o2 x0 x1 x2
    go_wp2_with (go_at_call 14; refine (works_any _).mono ?_; rintro e wz ⟨rfl, hb⟩; have HBZ := Lib.hid (HS1.out.next hb).b; clear hb)
    go_ret
    exact ⟨rfl, HBZ.out⟩
  have HR := Lib.hid hr
  obtain ⟨hV, hnd, hns⟩ := ready_is hr
  have HV := Lib.hid hV
  clear hr hV
  go_wp2_with fail
  refine (ready_to HR.out HSY.out.st).mono ?_
  rintro e z1 ⟨rfl, hb⟩
  have HS1 := Lib.hid (HSY.out.next hb)
  have HO1 := Lib.hid (HOY.out.next hb)
  have HX1 := Lib.hid ((hb.block _ (heap_lt HXY.out)).trans HXY.out)
  clear hb c0 c1 c2 o0 o1 o2 x0 x1 x2
  obtain ⟨c0, c1, c2⟩ := HS1.out.cells
  obtain ⟨o0, o1, o2⟩ := HO1.out.cells
  obtain ⟨x0, x1, x2⟩ := box3c HX1.out
  go_wp2_with fail
  cases ho : readyB (moreS C s)
  case false =>
    refine (ready_to ho HO1.out.st).mono ?_
    rintro e z2 ⟨rfl, hb⟩
    have HS2 := Lib.hid (HS1.out.next hb)
    clear hb c0 c1 c2 o0 o1 o2 x0 x1 x2 ho
    go_wp2_with (go_at_call 14; refine (works_any _).mono ?_; rintro e wz ⟨rfl, hb⟩; have HBZ := Lib.hid (HS2.out.next hb).b; clear hb)
    go_ret
    exact ⟨rfl, HBZ.out⟩
  refine (ready_to ho HO1.out.st).mono ?_
  rintro e z2 ⟨rfl, hb⟩
  obtain ⟨hVO, hndO, hnsO⟩ := ready_is ho
  have HVO := Lib.hid hVO
  clear ho hVO hndO hnsO
  have HS2 := Lib.hid (HS1.out.next hb)
  have HO2 := Lib.hid (HO1.out.next hb)
  have HX2 := Lib.hid ((hb.block _ (heap_lt HX1.out)).trans HX1.out)
  clear hb c0 c1 c2 o0 o1 o2 x0 x1 x2
  obtain ⟨c0, c1, c2⟩ := HS2.out.cells
  obtain ⟨o0, o1, o2⟩ := HO2.out.cells
  obtain ⟨x0, x1, x2⟩ := box3c HX2.out
  have hml := moreS_len C s
  have HML := Lib.hid hml.symm
  clear hml
  obtain ⟨m, hm⟩ : ∃ m, fewV C = m := ⟨_, rfl⟩
  obtain ⟨n, hn⟩ : ∃ n, fewV (moreS C s) = n := ⟨_, rfl⟩
  obtain ⟨i, hi⟩ : ∃ i, (truthsP C).length = i := ⟨_, rfl⟩
  obtain ⟨j, hj⟩ : ∃ j, (truthsP (moreS C s)).length = j := ⟨_, rfl⟩
  have hmn := more_few C s
  have hji := more_many C s
  have hmb := fewV_bound C
  have hti := truths_iff (C := C)
  have htj := truths_iff (C := moreS C s)
  rw [hm, hn] at hmn
  rw [hi, hj] at hji
  rw [hm] at hmb hti
  rw [hi] at hti
  rw [hj, hn] at htj
  have hi4 : i ≤ 4096 := hi ▸ truthsP_len (valid_iff.1 HV.out)
  have hw : (moreS C s).wrong = C.wrong := rfl
  rw [hw] at htj
  have HM := Lib.hid hm
  have HN := Lib.hid hn
  have HI := Lib.hid hi
  have HJ := Lib.hid hj
  clear hm hn hi hj hw
  go_wp2_with fail
  refine (Fewest_l HM.out rfl rfl HS2.out.st HV.out).mono ?_
  rintro e z3 ⟨rfl, hb⟩
  have HS3 := Lib.hid (HS2.out.next hb)
  have HO3 := Lib.hid (HO2.out.next hb)
  have HX3 := Lib.hid ((hb.block _ (heap_lt HX2.out)).trans HX2.out)
  clear hb c0 c1 c2 o0 o1 o2 x0 x1 x2
  obtain ⟨c0, c1, c2⟩ := HS3.out.cells
  obtain ⟨o0, o1, o2⟩ := HO3.out.cells
  obtain ⟨x0, x1, x2⟩ := box3c HX3.out
  go_wp2_with fail
  refine (Fewest_l HN.out rfl HML.out HO3.out.st HVO.out).mono ?_
  rintro e z4 ⟨rfl, hb⟩
  have HS4 := Lib.hid (HS3.out.next hb)
  have HO4 := Lib.hid (HO3.out.next hb)
  have HX4 := Lib.hid ((hb.block _ (heap_lt HX3.out)).trans HX3.out)
  clear hb c0 c1 c2 o0 o1 o2 x0 x1 x2
  obtain ⟨c0, c1, c2⟩ := HS4.out.cells
  obtain ⟨o0, o1, o2⟩ := HO4.out.cells
  obtain ⟨x0, x1, x2⟩ := box3c HX4.out
  go_wp2_with fail
  refine (Many_l HI.out rfl rfl rfl HS4.out.st HV.out).mono ?_
  rintro e z5 ⟨rfl, hb⟩
  have HS5 := Lib.hid (HS4.out.next hb)
  have HO5 := Lib.hid (HO4.out.next hb)
  have HX5 := Lib.hid ((hb.block _ (heap_lt HX4.out)).trans HX4.out)
  clear hb c0 c1 c2 o0 o1 o2 x0 x1 x2
  obtain ⟨c0, c1, c2⟩ := HS5.out.cells
  obtain ⟨o0, o1, o2⟩ := HO5.out.cells
  obtain ⟨x0, x1, x2⟩ := box3c HX5.out
  go_wp2_with fail
  refine (Many_l HJ.out rfl rfl HML.out HO5.out.st HVO.out).mono ?_
  rintro e z6 ⟨rfl, hb⟩
  have HS6 := Lib.hid (HS5.out.next hb)
  have HO6 := Lib.hid (HO5.out.next hb)
  have HX6 := Lib.hid ((hb.block _ (heap_lt HX5.out)).trans HX5.out)
  clear hb c0 c1 c2 o0 o1 o2 x0 x1 x2
  obtain ⟨c0, c1, c2⟩ := HS6.out.cells
  obtain ⟨o0, o1, o2⟩ := HO6.out.cells
  obtain ⟨x0, x1, x2⟩ := box3c HX6.out
  have hmq0 : 0 ≤ m := hmb.1
  have hmq8 : m ≤ 8 := by omega
  have hm0 : decide (m < 0) = false := decide_eq_false (by omega)
  have hm1 : decide ((C.sights.length : Int) < m) = false := decide_eq_false (by omega)
  have hm2 : decide (n < m) = false := decide_eq_false (by omega)
  have hm3 : decide (m + 1 < n) = false := decide_eq_false (by omega)
  have hm4 : decide ((i : Int) < (j : Int)) = false := decide_eq_false (by omega)
  have hm5 : ¬ i < j := by omega
  by_cases hj0 : j = 0
  · have hj3 : noneE j = 3 := by rw [hj0]; rfl
    have hd2 : decide (n ≤ C.wrong) = false := decide_eq_false (fun h => htj.2 h hj0)
    rw [hj3]
    by_cases hi0 : i = 0
    · have hi3 : noneE i = 3 := by rw [hi0]; rfl
      have hd1 : decide (m ≤ C.wrong) = false := decide_eq_false (fun h => hti.2 h hi0)
      rw [hi3]
      clear hti htj hj3 hi3 hmn hji hmb
      go_wp2_with (first | (go_at_call 56; refine (isKnown_to (by first | exact .inl rfl | exact .inr rfl) _).mono ?_; rintro e wk ⟨rfl, rfl⟩) | (go_at_call 14; refine (works_any _).mono ?_; rintro e wz ⟨rfl, hb⟩; have HBZ := Lib.hid (HS6.out.next hb).b; clear hb))
      go_ret
      exact ⟨rfl, HBZ.out⟩
    · have hi3 : noneE i = 0 := noneE_pos hi0
      have hd1 : decide (m ≤ C.wrong) = true := decide_eq_true (hti.1 hi0)
      rw [hi3]
      clear hti htj hj3 hi3 hmn hji hmb
      go_wp2_with (first | (go_at_call 56; refine (isKnown_to (by first | exact .inl rfl | exact .inr rfl) _).mono ?_; rintro e wk ⟨rfl, rfl⟩) | (go_at_call 14; refine (works_any _).mono ?_; rintro e wz ⟨rfl, hb⟩; have HBZ := Lib.hid (HS6.out.next hb).b; clear hb))
      go_ret
      exact ⟨rfl, HBZ.out⟩
  have hi0 : i ≠ 0 := by omega
  have hj3 : noneE j = 0 := noneE_pos hj0
  have hi3 : noneE i = 0 := noneE_pos hi0
  have hd1 : decide (m ≤ C.wrong) = true := decide_eq_true (hti.1 hi0)
  have hd2 : decide (n ≤ C.wrong) = true := decide_eq_true (htj.1 hj0)
  have HY := Lib.hid (show ∀ b, ansE C b = (if b = true then 0 else 1) from fun b => by rw [ansE, HI.out, hi3])
  have HZ := Lib.hid (show ∀ b, ansE (moreS C s) b = (if b = true then 0 else 1) from fun b => by rw [ansE, HJ.out, hj3])
  rw [hi3, hj3]
  obtain ⟨ya, hya⟩ : ∃ y : Int, (if placeB C X0 = true then (0 : Int) else 1) = y := ⟨_, rfl⟩
  obtain ⟨yb, hyb⟩ : ∃ y : Int, (if linkB C X2 = true then (0 : Int) else 1) = y := ⟨_, rfl⟩
  obtain ⟨P, hP⟩ : ∃ P, ansV C (placeB C X0) (linkAt C X0.toNat) = P := ⟨_, rfl⟩
  obtain ⟨R, hR⟩ : ∃ R, ansV C (linkB C X2) (placeOf C X2) = R := ⟨_, rfl⟩
  obtain ⟨Q, hQ⟩ : ∃ Q, ansV (moreS C s) (placeB (moreS C s) X0) (linkAt (moreS C s) X0.toNat) = Q := ⟨_, rfl⟩
  obtain ⟨T, hT⟩ : ∃ T, ansV (moreS C s) (linkB (moreS C s) X2) (placeOf (moreS C s) X2) = T := ⟨_, rfl⟩
  have hP40 : P.length ≤ 40 := hP ▸ who_len (valid_iff.1 HV.out) X0
  have hQ40 : Q.length ≤ 40 := hQ ▸ who_len (valid_iff.1 HVO.out) X0
  have hR40 : R.length ≤ 40 := hR ▸ where_len (valid_iff.1 HV.out) X2 _
  have hT40 : T.length ≤ 40 := hT ▸ where_len (valid_iff.1 HVO.out) X2 _
  have HQP := Lib.hid (show (∀ x ∈ Q, x ∈ P) ∧ Q.length ≤ P.length from by
    subst hP hQ
    exact ⟨more_sub (C := C) (s := s) (b := placeB C X0) (f := linkAt C X0.toNat), more_len (C := C) (s := s) (b := placeB C X0) (f := linkAt C X0.toNat)⟩)
  have HTR := Lib.hid (show (∀ x ∈ T, x ∈ R) ∧ T.length ≤ R.length from by
    subst hR hT
    exact ⟨more_sub (C := C) (s := s) (b := linkB C X2) (f := placeOf C X2), more_len (C := C) (s := s) (b := linkB C X2) (f := placeOf C X2)⟩)
  have HEP := Lib.hid (show ansE C (placeB C X0) = ya from by rw [HY.out, hya])
  have HEQ := Lib.hid (show ansE (moreS C s) (placeB (moreS C s) X0) = ya from by rw [HZ.out]; exact hya)
  have HER := Lib.hid (show ansE C (linkB C X2) = yb from by rw [HY.out, hyb])
  have HET := Lib.hid (show ansE (moreS C s) (linkB (moreS C s) X2) = yb from by rw [HZ.out]; exact hyb)
  have HPP := Lib.hid hP
  have HQQ := Lib.hid hQ
  have HRR := Lib.hid hR
  have HTT := Lib.hid hT
  clear hti htj hj3 hi3 hmn hji hmb hP hQ hR hT hya hyb HY HZ
  go_wp2_with (go_at_call 56; refine (isKnown_to (by first | exact .inl rfl | exact .inr rfl) _).mono ?_; rintro e wk ⟨rfl, rfl⟩)
  refine (Who_v HPP.out HEP.out rfl rfl HS6.out.st HV.out HX0.out).mono ?_
  rintro e z7 ⟨v7, rfl, hv, hb⟩
  obtain ⟨a7, k7, b7, j7, rfl, _⟩ := hv.opened
  have HL7 := Lib.hid hv
  clear hv
  have HS7 := Lib.hid (HS6.out.next hb)
  have HO7 := Lib.hid (HO6.out.next hb)
  have HX7 := Lib.hid ((hb.block _ (heap_lt HX6.out)).trans HX6.out)
  clear hb c0 c1 c2 o0 o1 o2 x0 x1 x2
  obtain ⟨c0, c1, c2⟩ := HS7.out.cells
  obtain ⟨o0, o1, o2⟩ := HO7.out.cells
  obtain ⟨x0, x1, x2⟩ := box3c HX7.out
  go_wp2_with fail
  refine (Who_v HQQ.out HEQ.out rfl HML.out HO7.out.st HVO.out HX0.out).mono ?_
  rintro e z8 ⟨v8, rfl, hv, hb⟩
  obtain ⟨a8, k8, b8, j8, rfl, _⟩ := hv.opened
  have HL8 := Lib.hid hv
  have HL7b := Lib.hid ((HL7.out.below hb).mono hb.size)
  clear hv
  have HS8 := Lib.hid (HS7.out.next hb)
  have HO8 := Lib.hid (HO7.out.next hb)
  have HX8 := Lib.hid ((hb.block _ (heap_lt HX7.out)).trans HX7.out)
  clear hb c0 c1 c2 o0 o1 o2 x0 x1 x2
  obtain ⟨c0, c1, c2⟩ := HS8.out.cells
  obtain ⟨o0, o1, o2⟩ := HO8.out.cells
  obtain ⟨x0, x1, x2⟩ := box3c HX8.out
  go_wp2_with fail
  refine (Where_v HRR.out HER.out rfl rfl HS8.out.st HV.out).mono ?_
  rintro e z9 ⟨v9, rfl, hv, hb⟩
  obtain ⟨a9, k9, b9, j9, rfl, _⟩ := hv.opened
  have HL9 := Lib.hid hv
  have HL7c := Lib.hid ((HL7b.out.below hb).mono hb.size)
  have HL8c := Lib.hid ((HL8.out.below hb).mono hb.size)
  clear hv
  have HS9 := Lib.hid (HS8.out.next hb)
  have HO9 := Lib.hid (HO8.out.next hb)
  have HX9 := Lib.hid ((hb.block _ (heap_lt HX8.out)).trans HX8.out)
  clear hb c0 c1 c2 o0 o1 o2 x0 x1 x2
  obtain ⟨c0, c1, c2⟩ := HS9.out.cells
  obtain ⟨o0, o1, o2⟩ := HO9.out.cells
  obtain ⟨x0, x1, x2⟩ := box3c HX9.out
  go_wp2_with fail
  refine (Where_v HTT.out HET.out rfl HML.out HO9.out.st HVO.out).mono ?_
  rintro e z10 ⟨v10, rfl, hv, hb⟩
  obtain ⟨a10, k10, b10, j10, rfl, _⟩ := hv.opened
  have HL10 := Lib.hid hv
  have HL7d := Lib.hid ((HL7c.out.below hb).mono hb.size)
  have HL8d := Lib.hid ((HL8c.out.below hb).mono hb.size)
  have HL9d := Lib.hid ((HL9.out.below hb).mono hb.size)
  clear hv
  have HS10 := Lib.hid (HS9.out.next hb)
  have HO10 := Lib.hid (HO9.out.next hb)
  have HX10 := Lib.hid ((hb.block _ (heap_lt HX9.out)).trans HX9.out)
  clear hb c0 c1 c2 o0 o1 o2 x0 x1 x2
  obtain ⟨c0, c1, c2⟩ := HS10.out.cells
  obtain ⟨o0, o1, o2⟩ := HO10.out.cells
  obtain ⟨x0, x1, x2⟩ := box3c HX10.out
  go_wp2_with fail
  have hb4 := HL10.out
  have hnew := heap_new z10 (.cells #[.slice a7 P.length k7, .slice a8 Q.length k8, .slice a9 R.length k9, .slice a10 T.length k10] 33)
  refine (small_any z10.heap.size 4 _ _ _ hnew (by omega) (fun i hi => by
    match i, hi with
    | 0, _ => exact ⟨_, _, _, rfl, hP40⟩
    | 1, _ => exact ⟨_, _, _, rfl, hQ40⟩
    | 2, _ => exact ⟨_, _, _, rfl, hR40⟩
    | 3, _ => exact ⟨_, _, _, rfl, hT40⟩)).mono ?_
  rintro e z11 ⟨rfl, rfl⟩
  clear hnew hb4 c0 c1 c2 o0 o1 o2 x0 x1 x2
  have HBA := Lib.hid ((Below.refl _ z10).alloc (Nat.le_refl _) (.cells #[.slice a7 P.length k7, .slice a8 Q.length k8, .slice a9 R.length k9, .slice a10 T.length k10] 33))
  have HSA := Lib.hid (HS10.out.next HBA.out)
  go_wp2_with fail
  refine (subset_any _ _ Q P _ (HL8d.out.below HBA.out) (HL7d.out.below HBA.out) HQP.out.1 HQP.out.2).mono ?_
  rintro e z12 ⟨rfl, rfl⟩
  go_wp2_with fail
  refine (subset_any _ _ T R _ (HL10.out.below HBA.out) (HL9d.out.below HBA.out) HTR.out.1 HTR.out.2).mono ?_
  rintro e z13 ⟨rfl, rfl⟩
  go_wp2_with (go_at_call 14; refine (works_any _).mono ?_; rintro e wz ⟨rfl, hb⟩; have HBZ := Lib.hid (HSA.out.next hb).b; clear hb)
  go_ret
  exact ⟨rfl, HBZ.out⟩

end Go.Proofs.Ytdkiccndoanlpaa
