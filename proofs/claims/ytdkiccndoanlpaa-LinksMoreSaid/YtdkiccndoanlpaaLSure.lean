/-
  A law's body: the known ends (P2.17).
-/
import Derived.Test.YtdkiccndoanlpaaLSureM
import Derived.Test.YtdkiccndoanlpaaLIn
import Derived.Test.YtdkiccndoanlpaaLCopy
import Derived.Test.YtdkiccndoanlpaaLWorks
import Derived.Deep.DeepCutAuto
import Derived.Deep.RegionHeld3
namespace Go.Proofs.Ytdkiccndoanlpaa
open Go.RowKit

theorem Many_l {a a2 : Option Addr} {n m cap cap2 : Nat} {C : Chain} {w : World} {x : Nat} {y : Int} (hf : (truthsP C).length = x) (he : noneE x = y) (hn : n = C.deeds.length) (hm : m = C.sights.length)
    (hx : ChainAt w.heap.size w (.agg #[.slice a n cap, .slice a2 m cap2, .int .i64 C.wrong]) C) (hV : validB C = true) :
    Calls Try.prog 22 #[.agg #[.slice a n cap, .slice a2 m cap2, .int .i64 C.wrong]] w fun e w' => e = .returned (.tuple #[.int .i64 x, .int .i64 y]) ∧ Below w.heap.size w w' := by
  subst hn hm hf he
  exact Many_any a a2 cap cap2 C w hx hV
theorem Length_l {v : Value} {C : Chain} {w : World} {x : Nat} (hf : lenTo C.deeds C.deeds.length = x) (hx : ChainAt w.heap.size w v C) (hV : validB C = true) :
    Calls Try.prog 18 #[v] w fun e w' => e = .returned (.tuple #[.int .i64 x, .int .i64 0]) ∧ Below w.heap.size w w' := by
  have := length_any v C w hx
  rwa [if_pos hV, chkS_ok hV, hf] at this
theorem Who_l {a a2 : Option Addr} {n m cap cap2 at_ : Nat} {C : Chain} {w : World} {L : List Int} {y : Int} (hf : srt ((truthsP C).map (linkAt C at_)) = L) (he : noneE (truthsP C).length = y) (hn : n = C.deeds.length) (hm : m = C.sights.length)
    (hx : ChainAt w.heap.size w (.agg #[.slice a n cap, .slice a2 m cap2, .int .i64 C.wrong]) C) (hV : validB C = true) (hat : (at_ : Int) < lenTo C.deeds C.deeds.length) :
    Calls Try.prog 24 #[.agg #[.slice a n cap, .slice a2 m cap2, .int .i64 C.wrong], .int .i64 at_] w fun e w' => ∃ v, e = .returned (.tuple #[v, .int .i64 y]) ∧ IntsAt w'.heap.size w' v L ∧ Below w.heap.size w w' := by
  subst hn hm hf he
  exact Who_ok a a2 cap cap2 C at_ w hx hV hat
theorem Where_l {a a2 : Option Addr} {n m cap cap2 : Nat} {link : Int} {C : Chain} {w : World} {L : List Int} {y : Int} (hf : srt ((truthsP C).map (placeOf C link)) = L) (he : noneE (truthsP C).length = y) (hn : n = C.deeds.length) (hm : m = C.sights.length)
    (hx : ChainAt w.heap.size w (.agg #[.slice a n cap, .slice a2 m cap2, .int .i64 C.wrong]) C) (hV : validB C = true) (hi : wB link 0 ((weldsTo C.deeds C.deeds.length : Int) - 1) = true) :
    Calls Try.prog 32 #[.agg #[.slice a n cap, .slice a2 m cap2, .int .i64 C.wrong], .int .i64 link] w fun e w' => ∃ v, e = .returned (.tuple #[v, .int .i64 y]) ∧ IntsAt w'.heap.size w' v L ∧ Below w.heap.size w w' := by
  subst hn hm hf he
  exact Where_ok a a2 cap cap2 C link w hx hV hi

theorem cells4_below {W W' : World} {p q o : Nat} {x0 x1 x2 y : Value} (h : W.cell? ⟨p, 0, none⟩ = some x0 ∧ W.cell? ⟨p, 1, none⟩ = some x1 ∧ W.cell? ⟨p, 2, none⟩ = some x2 ∧ W.cell? ⟨q, o, none⟩ = some y) (hb : Below W.heap.size W W') (hp : p < W.heap.size) (hq : q < W.heap.size) :
    W'.cell? ⟨p, 0, none⟩ = some x0 ∧ W'.cell? ⟨p, 1, none⟩ = some x1 ∧ W'.cell? ⟨p, 2, none⟩ = some x2 ∧ W'.cell? ⟨q, o, none⟩ = some y :=
  ⟨(hb.cell (p := ⟨p, 0, none⟩) hp).trans h.1, (hb.cell (p := ⟨p, 1, none⟩) hp).trans h.2.1, (hb.cell (p := ⟨p, 2, none⟩) hp).trans h.2.2.1, (hb.cell (p := ⟨q, o, none⟩) hq).trans h.2.2.2⟩

set_option maxRecDepth 100000 in
set_option maxHeartbeats 8000000 in
theorem LinksSure_any (v : Value) (C : Chain) (w : World) (hx : ChainAt w.heap.size w v C) :
    Calls Try.prog 11 #[v] w fun e w' => e = .returned (.bool true) ∧ Below w.heap.size w w' := by
  have hx' := hx
  obtain ⟨i0, hi, hz0, hz1, hz2⟩ := info_parts Try_infoInt
  obtain ⟨a, cap, b, off, a2, cap2, b2, off2, rfl, hm, hm2, hcap, hcapm, HA, HC, HA2, HC2, HI, HI2⟩ := hx.opened
  have hs := LStat.first hx'
  obtain ⟨c0, c1, c2⟩ := hs.cells
  have HS0 := Lib.hid hs
  clear hx hx' HA2 HC2 HI2 HI hs
  cases hr : readyB C
  case false =>
    have HR := Lib.hid hr
    clear hr
    go_enter Try.func11, Try.ntmps11
    go_wp2_with fail
    refine (ready_to HR.out HS0.out.st).mono ?_
    rintro e w1 ⟨rfl, hb⟩
    have HS1 := Lib.hid (HS0.out.next hb)
    clear hb c0 c1 c2
    go_wp2_with fail
    refine (works_any _).mono ?_
    rintro e w2 ⟨rfl, hb⟩
    have HB := Lib.hid (HS1.out.next hb).b
    clear hb
    go_wp2
    go_ret
    exact ⟨rfl, HB.out⟩
  obtain ⟨hV, hnd, hns⟩ := ready_is hr
  have HR := Lib.hid hr
  have HV := Lib.hid hV
  have hln := (story_ok (ends := endsOf C.deeds 0) (valid_iff.1 hV).deed _ (Nat.le_refl _))
  have hll := lenTo_le C.deeds C.deeds.length
  obtain ⟨len, hlen⟩ : ∃ len : Nat, lenTo C.deeds C.deeds.length = len := ⟨(lastS C).length, hln.1.symm⟩
  have hSl : (lastS C).length = len := by have := hln.1; rw [hlen] at this; exact Int.ofNat.inj this
  rw [hlen] at hll
  have HLEN := Lib.hid hlen
  have HSL := Lib.hid hSl
  have HNOD := Lib.hid (show (lastS C).Nodup from hln.2.1)
  have HMEM := Lib.hid (show ∀ x ∈ lastS C, 0 ≤ x ∧ x < weldsTo C.deeds C.deeds.length from hln.2.2)
  clear hr hV hlen hSl hln
  obtain ⟨M, hM⟩ : ∃ M, (truthsP C).length = M := ⟨_, rfl⟩
  have HM := Lib.hid hM
  have hM4 : M ≤ 4096 := hM ▸ truthsP_len (valid_iff.1 HV.out)
  obtain ⟨e1, he1⟩ : ∃ e1, noneE M = e1 := ⟨_, rfl⟩
  have HE1 := Lib.hid he1
  have hek : e1 = 0 ∨ e1 = 3 := by rw [← he1, noneE]; split <;> simp
  clear hM he1
  go_enter Try.func11, Try.ntmps11
  go_wp2_with fail
  refine (ready_to HR.out HS0.out.st).mono ?_
  rintro e w1 ⟨rfl, hb⟩
  have hs := HS0.out.next hb
  clear hb c0 c1 c2
  obtain ⟨c0, c1, c2⟩ := hs.cells
  have HS1 := Lib.hid hs
  clear hs
  go_wp2_with fail
  refine (Many_l HM.out HE1.out rfl rfl HS1.out.st HV.out).mono ?_
  rintro e w2 ⟨rfl, hb⟩
  have hs := HS1.out.next hb
  clear hb c0 c1 c2
  obtain ⟨c0, c1, c2⟩ := hs.cells
  have HS2 := Lib.hid hs
  clear hs
  go_wp2_with fail
  refine (Length_l HLEN.out HS2.out.st HV.out).mono ?_
  rintro e w3 ⟨rfl, hb⟩
  have hs := HS2.out.next hb
  clear hb c0 c1 c2
  obtain ⟨c0, c1, c2⟩ := hs.cells
  have HS3 := Lib.hid hs
  clear hs
  go_wp2_with (go_at_call 56; refine (isKnown_to hek _).mono ?_; rintro e wk ⟨rfl, rfl⟩)
  go_loop [7] (fun i => ∃ k : Nat, k ≤ C.deeds.length ∧ i = .int .i64 k ∧ Hid (∀ i, i < k → (dnth C.deeds i).from_ ≠ 2)) (fun i => C.deeds.length - (intOf i).toNat)
  case atStart => exact ⟨0, Nat.zero_le _, rfl, fun i hi => by omega⟩
  case round =>
    obtain ⟨k, hk, rfl, hall⟩ := hrel
    by_cases hlt : k < C.deeds.length
    · obtain ⟨rfl, hbB⟩ := HA.out (by omega)
      obtain ⟨d0, d1, d2, d3, d4⟩ := (HC.out k hlt).below HS3.out.b hbB
      by_cases h2 : (dnth C.deeds k).from_ = 2
      · go_wp2_with (go_at_call 14; refine (works_any _).mono ?_; rintro e wz ⟨rfl, hb⟩; have HB := Lib.hid (HS3.out.next hb).b; clear hb)
        go_ret
        exact ⟨rfl, HB.out⟩
      · have HN := Lib.hid h2
        go_wp2
        exact ⟨⟨k + 1, by omega, by go_num, fun i hi => by by_cases e : i = k; exact e ▸ HN.out; exact hall.out i (by omega)⟩, by simp [intOf]; omega⟩
    · obtain rfl : C.deeds.length = k := by omega
      clear hlt hk
      rcases hek with rfl | rfl
      case inr =>
        go_wp2_with (go_at_call 14; refine (works_any _).mono ?_; rintro e wz ⟨rfl, hb⟩; have HB := Lib.hid (HS3.out.next hb).b; clear hb)
        go_ret
        exact ⟨rfl, HB.out⟩
      have hne : (truthsP C).length ≠ 0 := fun e => by
        have h1 := HM.out
        have h2 := HE1.out
        rw [e] at h1
        subst h1
        simp [noneE] at h2
      have ht := one_truth hall.out hne
      obtain rfl : M = 1 := by rw [← HM.out, ht]; rfl
      have HT := Lib.hid ht
      clear hne ht hall
      go_wp2_with fail
      clear c0 c1 c2
      go_loopw [8, 9] (fun f i wr => ∃ k : Nat, k ≤ len ∧ i = .int .i64 k ∧ Hid (wr.ownsRow w3.heap.size 3 1 f k (((lastS C).take k).map (Value.int .i64))) ∧ Hid (LStat w wr w.heap.size (.slice a C.deeds.length cap) (.slice a2 C.sights.length cap2) (.int .i64 C.wrong) C) ∧ Hid (Below w3.heap.size w3 wr)) (fun _ i _ => len - (intOf i).toNat)
      case atStart => exact ⟨0, Nat.zero_le _, rfl, World.ownsRow_nil _ _ _ _, HS3.out, Below.refl _ _⟩
      case round =>
        obtain ⟨k, hk, rfl, hown, hs, hbr⟩ := hrel
        obtain ⟨fA, fc, rfl, _⟩ := own_form hown.out
        obtain ⟨c0, c1, c2⟩ := hs.out.cells
        by_cases hlt : k < len
        · have hkl : (k : Int) < lenTo C.deeds C.deeds.length := by rw [HLEN.out]; omega
          have HKL := Lib.hid hkl
          have hkS : k < (lastS C).length := by rw [HSL.out]; exact hlt
          have HFR := Lib.hid (fresh_nth HNOD.out hkS)
          have hmm := HMEM.out _ (nth_mem hkS)
          have HNX := Lib.hid (show (lastS C).take (k + 1) = (lastS C).take k ++ [nth (lastS C) k] from take_nth hkS)
          have HWL := Lib.hid (show wB (nth (lastS C) k) 0 ((weldsTo C.deeds C.deeds.length : Int) - 1) = true from wB_iff.2 ⟨hmm.1, by omega⟩)
          have hw12 := weldsTo_le C.deeds C.deeds.length
          have HTK := Lib.hid (show ∀ x ∈ (lastS C).take k, I64 x from fun x hx => by have := HMEM.out x (List.mem_of_mem_take hx); unfold I64; omega)
          have HTL := Lib.hid (show ((lastS C).take k).length = k by rw [List.length_take, HSL.out]; omega)
          obtain ⟨y, hy⟩ : ∃ y, nth (lastS C) k = y := ⟨_, rfl⟩
          rw [hy] at HFR HNX HWL hmm
          have HY := Lib.hid hy
          clear hkl hkS hy
          go_wp2_with fail
          refine (Who_l (L := [y]) (y := 0) (by rw [who_one HT.out, HY.out]) (by rw [HT.out]; rfl) rfl rfl hs.out.st HV.out HKL.out).mono ?_
          rintro e wq ⟨lv, rfl, hlv, hb⟩
          obtain ⟨la, lk, lb, lo, rfl, _, hla, hlc, _⟩ := hlv.opened
          obtain ⟨rfl, hlb⟩ := hla.out (by simp)
          have l0 : wq.cell? ⟨lb, lo, none⟩ = some (.int .i64 y) := by have := hlc.out 0 (by simp); simpa [nth] using this
          have HS' := Lib.hid (hs.out.next hb)
          have HOW := Lib.hid (own_below hown.out hb)
          have HBR := Lib.hid (hbr.out.trans (hb.mono hbr.out.size))
          clear hb hlv hla hlc c0 c1 c2 hown hs hbr
          obtain ⟨c0, c1, c2⟩ := HS'.out.cells
          simp only [List.length_cons, List.length_nil, Nat.reduceAdd]
          have hpl := heap_lt HS'.out.blk
          go_upto_region 21 with fail
          go_cut [104] from 83 to 103 (fun b wz => b = .bool false ∧ Hid (Below wq.heap.size wq wz))
          case first =>
            go_region_held3 (fun w' => w'.cell? ⟨w.heap.size, 0, none⟩ = some (.slice a C.deeds.length cap) ∧ w'.cell? ⟨w.heap.size, 1, none⟩ = some (.slice a2 C.sights.length cap2) ∧ w'.cell? ⟨w.heap.size, 2, none⟩ = some (.int .i64 C.wrong) ∧ w'.cell? ⟨lb, lo, none⟩ = some (.int .i64 y))
              (first | exact ⟨c0, c1, c2, l0⟩ | assumption | exact cells4_below ⟨c0, c1, c2, l0⟩ hbk hpl hlb)
              (first
                | (go_at_call 50; refine (in_to HFR.out (ints_of_own (by rw [HTL.out]; exact HOW.out) HTK.out)).mono ?_; rintro e w' ⟨rfl, rfl⟩)
                | (go_at_call 46; refine (IsLink_to HWL.out (by omega) (HS'.out.next (Below.refl _ wq).drew).st).mono ?_; rintro e w' ⟨rfl, hbk0⟩; have hbk : Below wq.heap.size wq w' := ((Below.refl _ wq).drew).trans (hbk0.mono (Nat.le_refl _))))
            all_goals go_wp2_with fail
            all_goals go_meet
            all_goals exact ⟨rfl, hbk⟩
          case rest =>
          obtain ⟨rfl, hbz⟩ := hcut
          have l1 : wc.cell? ⟨lb, lo, none⟩ = some (.int .i64 y) := (hbz.out.cell (p := ⟨lb, lo, none⟩) hlb).trans l0
          have HS2' := Lib.hid (HS'.out.next hbz.out)
          have HOW2 := Lib.hid (own_below HOW.out hbz.out)
          have HBR2 := Lib.hid (HBR.out.trans (hbz.out.mono HBR.out.size))
          have hszc : w3.heap.size ≤ wc.heap.size := HBR2.out.size
          clear c0 c1 c2 l0 hbz
          go_wp2_with (at_builtin; refine wpList_append_own _ rfl _ _ 33 rfl w3.heap.size 3 i0 (.int .i64 0) 1 8 Try.underlying33 hi hz0 hz1 hz2 rfl (by decide) _ _ _ rfl (HOW2.out.alloc _) ⟨wc.heap.size, 0, none⟩ 1 1 [.int .i64 y] rfl rfl ?c1 ?c2 ?c3 ?c4 ?c5 ?_)
          case c1 => simpa using cell_one_new wc (.int .i64 y) 3
          case c2 => simp [Value.oneCell']
          case c3 => unfold maxLen; omega
          case c4 => omega
          case c5 => first | omega | (simp; omega)
          intro v' wx hown' hgrow _
          have HOX := Lib.hid (show wx.ownsRow w3.heap.size 3 1 v' (k + 1) (((lastS C).take (k + 1)).map (Value.int .i64)) from by rw [HNX.out, List.map_append, List.map_take]; exact hown')
          have hbx : Below w3.heap.size wc wx := ((Below.refl _ wc).alloc hszc _).grown hgrow (by first | omega | (simp; omega)) (fun j e => (HOW2.out.lt j e).1)
          have HSX := Lib.hid (show LStat w wx w.heap.size (.slice a C.deeds.length cap) (.slice a2 C.sights.length cap2) (.int .i64 C.wrong) C from HS3.out.next (HBR2.out.trans hbx))
          have HBX := Lib.hid (HBR2.out.trans hbx)
          clear hown' hgrow hbx l1
          go_wp2
          exact ⟨⟨k + 1, by omega, by go_num, HOX.out, HSX.out, HBX.out⟩, by simp [intOf]; omega⟩
        · obtain rfl : k = len := by omega
          have HFND := Lib.hid (show IntsAt wr.heap.size wr (.slice fA k fc) (lastS C) from ints_of_own (by rw [HSL.out]; have := hown.out; rw [List.take_of_length_le (by rw [HSL.out]; exact Nat.le_refl _)] at this; exact this) (fun x hx => by have := HMEM.out x hx; have := weldsTo_le C.deeds C.deeds.length; unfold I64; omega))
          have HBR := Lib.hid hbr.out
          clear hown hbr hlt hk
          go_wp2_with fail
          refine (Welds_any _ C _ (by omega) hs.out.st).mono ?_
          rintro e w4 ⟨A, wcap, rfl, _, hb⟩
          have HS4 := Lib.hid (hs.out.next hb)
          have HF4 := Lib.hid ((HFND.out.below hb).mono hb.size)
          have hw12 := weldsTo_le C.deeds C.deeds.length
          obtain ⟨N, hN⟩ : ∃ N, weldsTo C.deeds C.deeds.length = N := ⟨_, rfl⟩
          have HN := Lib.hid hN
          rw [hN] at hw12 ⊢
          clear hb hs c0 c1 c2 hN
          go_wp2_with fail
          go_loopw [13] (fun i wr => ∃ j : Nat, j ≤ N ∧ i = .int .i64 j ∧ Hid (Below w4.heap.size w4 wr)) (fun i _ => N - (intOf i).toNat)
          case atStart => exact ⟨0, Nat.zero_le _, rfl, Below.refl _ _⟩
          case round =>
            obtain ⟨j, hj, rfl, hbj⟩ := hrel
            have HSJ := Lib.hid (HS4.out.next hbj.out)
            obtain ⟨c0, c1, c2⟩ := HSJ.out.cells
            by_cases hlt : j < N
            · have HLI := Lib.hid (show wB (j : Int) 0 ((weldsTo C.deeds C.deeds.length : Int) - 1) = true from wB_iff.2 ⟨by omega, by rw [HN.out]; omega⟩)
              go_wp2_with fail
              refine (Where_l (L := [ixV (lastS C) j]) (y := 0) (where_one HT.out _) (by rw [HT.out]; rfl) rfl rfl HSJ.out.st HV.out HLI.out).mono ?_
              rintro e wq ⟨lv, rfl, hlv, hb⟩
              obtain ⟨la, lk, lb, lo, rfl, _, hla, hlc, _⟩ := hlv.opened
              obtain ⟨rfl, hlb⟩ := hla.out (by simp)
              have l0 : wq.cell? ⟨lb, lo, none⟩ = some (.int .i64 (ixV (lastS C) j)) := by have := hlc.out 0 (by simp); simpa [nth] using this
              have HBQ := Lib.hid (hbj.out.trans (hb.mono hbj.out.size))
              have HFQ := Lib.hid ((HF4.out.below HBQ.out).mono HBQ.out.size)
              obtain ⟨z, hz⟩ : ∃ z, ixV (lastS C) j = z := ⟨_, rfl⟩
              obtain ⟨q, hq⟩ : ∃ q, inB (lastS C) j = q := ⟨_, rfl⟩
              have HQ := Lib.hid hq
              have hzq : decide (z < 0) = !q := by
                rw [← hz, ← hq]
                cases h : inB (lastS C) j
                · simp [ixV_neg.2 h]
                · have : ¬ ixV (lastS C) j < 0 := fun h' => by rw [ixV_neg.1 h'] at h; cases h
                  simp; omega
              rw [hz] at l0
              clear hb hlv hla hlc c0 c1 c2 hbj hz hq
              simp only [List.length_cons, List.length_nil, Nat.reduceAdd]
              cases q
              all_goals
                first | have hz1 : decide (z < 0) = true := hzq | have hz1 : decide (z < 0) = false := hzq
                clear hzq
                go_wp2_with fail
                go_quiet ((go_at_call 50; exact Calls.quiet_of_same ((in_to HQ.out (HFQ.out.below (drewN_below (Below.refl _ _) _))).mono fun _ _ h => ⟨h.1, h.2.symm⟩)))
                go_wp2
                exact ⟨⟨j + 1, by omega, by go_num, drewN_below HBQ.out _⟩, by simp [intOf]; omega⟩
            · obtain rfl : N = j := by omega
              go_wp2_with (go_at_call 14; refine (works_any _).mono ?_; rintro e wz ⟨rfl, hb⟩; have HB := Lib.hid (HSJ.out.next hb).b; clear hb)
              go_ret
              exact ⟨rfl, HB.out⟩

end Go.Proofs.Ytdkiccndoanlpaa
