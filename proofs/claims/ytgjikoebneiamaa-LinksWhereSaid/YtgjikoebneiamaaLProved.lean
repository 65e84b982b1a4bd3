/-
  Links, the law's reference: at which deeds a link was proved.
-/
import Derived.Test.YtgjikoebneiamaaLStory
import Derived.Test.YtgjikoebneiamaaLProof

namespace Go.Proofs.Ytgjikoebneiamaa
open Go.RowKit Go.Shelf

/-- By which of the first k deeds a link was proved. -/
def provTo (ds : List Deed) (x : List Int) (link : Int) : Nat → List Int
  | 0 => []
  | k + 1 => provTo ds x link k ++ (if (dnth ds k).what = 4 ∧ inB (story ds x k) link = true then [(k : Int)] else [])
theorem provTo_yes {ds : List Deed} {x : List Int} {link : Int} {k : Nat} (h1 : (dnth ds k).what = 4) (h2 : inB (story ds x k) link = true) : provTo ds x link (k + 1) = provTo ds x link k ++ [(k : Int)] := by simp only [provTo]; rw [if_pos ⟨h1, h2⟩]
theorem provTo_no {ds : List Deed} {x : List Int} {link : Int} {k : Nat} (h : ¬ ((dnth ds k).what = 4 ∧ inB (story ds x k) link = true)) : provTo ds x link (k + 1) = provTo ds x link k := by simp only [provTo]; rw [if_neg h, List.append_nil]
theorem provTo_len (ds : List Deed) (x : List Int) (link : Int) : ∀ k, ((provTo ds x link k).length : Int) = timesTo ds x link k
  | 0 => rfl
  | k + 1 => by
    simp only [provTo, timesTo, List.length_append]
    push_cast
    rw [provTo_len ds x link k]
    split <;> simp
/-- The last of some numbers. -/
def lastL (xs : List Int) : Int := if xs.length = 0 then -1 else nth xs (xs.length - 1)
theorem lastL_snoc (xs : List Int) (y : Int) : lastL (xs ++ [y]) = y := by simp [lastL, nth]
theorem provTo_last (ds : List Deed) (x : List Int) (link : Int) : ∀ k, lastTo ds x link k = lastL (provTo ds x link k)
  | 0 => rfl
  | k + 1 => by
    by_cases h : (dnth ds k).what = 4 ∧ inB (story ds x k) link = true
    · rw [provTo_yes h.1 h.2, lastTo_yes h.1 h.2, lastL_snoc]
    · rw [provTo_no h, lastTo_no h]
      exact provTo_last ds x link k
theorem provTo_le (ds : List Deed) (x : List Int) (link : Int) : ∀ k, (provTo ds x link k).length ≤ k ∧ ∀ y ∈ provTo ds x link k, 0 ≤ y ∧ y < k
  | 0 => by simp [provTo]
  | k + 1 => by
    have ih := provTo_le ds x link k
    simp only [provTo]
    split
    · refine ⟨by simp; omega, fun y hy => ?_⟩
      rcases List.mem_append.1 hy with hy | hy
      · have := ih.2 y hy; push_cast; omega
      · simp at hy; subst hy; push_cast; omega
    · rw [List.append_nil]
      exact ⟨by omega, fun y hy => by have := ih.2 y hy; push_cast; omega⟩

set_option maxRecDepth 100000 in
set_option maxHeartbeats 4000000 in
theorem Proved_any (v u : Value) (C : Chain) (ends : List Int) (link : Int) (w : World) (hV : validB C = true) (hl : ends.length = C.deeds.length) (hx : ChainAt w.heap.size w v C) (hu : IntsAt w.heap.size w u ends) :
    Calls Try.prog 52 #[v, u, .int .i64 link] w fun e w' => ∃ q, e = .returned q ∧ OwnInts w' q (provTo C.deeds ends link C.deeds.length) ∧ Below w.heap.size w w' := by
  have hx' := hx
  obtain ⟨i0, hi, hz0, hz1, hz2⟩ := info_parts Try_infoInt
  obtain ⟨a, cap, b, off, a2, cap2, b2, off2, rfl, hm, hm2, hcap, hcapm, HA, HC, HA2, HC2, HI, HI2⟩ := hx.opened
  have hu' := hu
  obtain ⟨ua, ucap, ub, uoff, rfl, hum, HUA, HUC, HUI⟩ := hu.opened
  have hV' := valid_iff.1 hV
  have hnd := hV'.nd
  have HS0 := Lib.hid (LStat.first hx')
  obtain ⟨c0, c1, c2⟩ := HS0.out.cells
  have HU := Lib.hid hu'
  have HL := Lib.hid hl
  have HV := Lib.hid hV
  have HV' := Lib.hid hV'
  clear hx hx' HA2 HC2 HI HI2 hu hu' hV hV' hl HUA HUC HUI
  go_enter Try.func52, Try.ntmps52
  go_wp2_with fail
  refine (Story_any _ _ C ends _ HV.out HL.out HS0.out.st ((HU.out.below HS0.out.b).mono HS0.out.b.size)).mono ?_
  rintro e w1 ⟨L, rfl, hls, hb1⟩
  have HS1 := Lib.hid (HS0.out.next hb1)
  have HLS := Lib.hid (hls.lower (Nat.zero_le _))
  obtain ⟨Lg, Lc, _, rfl, _, _⟩ := hls.get (i := 0) (by rw [storiesTo_len]; omega)
  rw [storiesTo_len] at HLS ⊢
  clear hb1 hls c0 c1 c2
  obtain ⟨c0, c1, c2⟩ := HS1.out.cells
  go_wp2_with fail
  go_loopw [7, 9] (fun o i wr => ∃ k : Nat, k ≤ C.deeds.length ∧ i = .int .i64 k ∧ Hid (wr.ownsRow w1.heap.size 3 1 o (provTo C.deeds ends link k).length ((provTo C.deeds ends link k).map (Value.int .i64))) ∧ Hid (Below w1.heap.size w1 wr)) (fun _ i _ => C.deeds.length - (intOf i).toNat)
  case atStart => exact ⟨0, Nat.zero_le _, rfl, World.ownsRow_nil _ _ _ _, Below.refl _ _⟩
  case round =>
    obtain ⟨k, hk, rfl, hown, hbl⟩ := hrel
    obtain ⟨oA, oc, rfl, _⟩ := own_form hown.out
    clear c0 c1 c2
    have HSR := Lib.hid (HS1.out.next hbl.out)
    obtain ⟨c0, c1, c2⟩ := HSR.out.cells
    have hle := provTo_le C.deeds ends link k
    have HLE := Lib.hid hle.2
    have hle1 := hle.1
    clear hle
    by_cases hlt : k < C.deeds.length
    · obtain ⟨rfl, hb⟩ := HA.out (by omega)
      obtain ⟨d0, d1, d2, d3, d4⟩ := (HC.out k hlt).below HSR.out.b hb
      obtain ⟨g, c, x, hq, hcell, hrow⟩ := (HLS.out.below hbl.out).get (i := k) (by rw [storiesTo_len]; omega)
      rw [storiesTo_nth _ _ (by omega)] at hrow
      injection hq with hq1 hq2 hq3
      injection hq1 with hq1
      injection hq1 with hq1
      clear hq2
      subst hq1 hq3
      have HROW := Lib.hid (hrow.ints (story_i64 HV'.out ends (by omega)))
      have hk0 : (0 : Int) ≤ (k : Nat) := by omega
      have hk1 : ((k : Nat) : Int) < (C.deeds.length : Int) + 1 := by omega
      clear hrow
      by_cases h4 : (dnth C.deeds k).what = 4
      · obtain ⟨q, hq⟩ : ∃ q, inB (story C.deeds ends k) link = q := ⟨_, rfl⟩
        have HQ := Lib.hid hq
        have H4 := Lib.hid h4
        cases q
        · have HN := Lib.hid (provTo_no (ds := C.deeds) (x := ends) (link := link) (k := k) (fun h => by rw [hq] at h; exact absurd h.2 (by simp)))
          clear hq
          go_wp2_with (go_at_call 98; refine (rIn_to HQ.out HROW.out).mono ?_; rintro e w' ⟨rfl, rfl⟩)
          exact ⟨⟨k + 1, by omega, by go_num, by rw [HN.out]; exact hown.out, hbl.out⟩, by simp [intOf]; omega⟩
        · have HN := Lib.hid (provTo_yes (ds := C.deeds) (x := ends) (link := link) (k := k) h4 hq)
          clear hq
          go_wp2_with (first | (go_at_call 98; refine (rIn_to HQ.out HROW.out).mono ?_; rintro e w' ⟨rfl, rfl⟩) | (at_builtin; refine wpList_append_own _ rfl _ _ 33 rfl w1.heap.size 3 i0 (.int .i64 0) 1 8 Try.underlying33 hi hz0 hz1 hz2 rfl (by decide) _ _ _ rfl (hown.out.alloc _) ⟨wr.heap.size, 0, none⟩ 1 1 [.int .i64 (k : Int)] rfl rfl ?c1 ?c2 ?c3 ?c4 ?c5 ?_))
          case c1 => simpa using cell_one_new wr (.int .i64 (k : Int)) 3
          case c2 => simp [Value.oneCell']
          case c3 => unfold maxLen; omega
          case c4 => omega
          case c5 => first | omega | (simp; have := hbl.out.size; omega)
          intro v' w3 hown' hgrow _
          have HO := Lib.hid hown'
          have HF := Lib.hid ((hbl.out.alloc hbl.out.size _).grown hgrow (by have := hbl.out.size; simp; omega) (fun j e => (hown.out.lt j e).1))
          clear hown' hgrow
          go_wp2
          exact ⟨⟨k + 1, by omega, by go_num, by rw [HN.out, List.map_append, List.length_append]; exact HO.out, HF.out⟩, by simp [intOf]; omega⟩
      · have HN := Lib.hid (provTo_no (ds := C.deeds) (x := ends) (link := link) (k := k) (fun h => h4 h.1))
        go_wp2_with fail
        exact ⟨⟨k + 1, by omega, by go_num, by rw [HN.out]; exact hown.out, hbl.out⟩, by simp [intOf]; omega⟩
    · obtain rfl : C.deeds.length = k := by omega
      go_wp2
      go_ret
      exact ⟨_, rfl, own_grow0 (W := wr) hown.out (Nat.zero_le _), HS1.out.b.trans (hbl.out.mono HS1.out.b.size)⟩

end Go.Proofs.Ytgjikoebneiamaa
