/-
  Walks: the reference's Heats and Strange.
-/
import Derived.Test.YtjflpmhlodgadaaOfW
namespace Go.Proofs.Ytjflpmhlodgadaa
open Go.RowKit Go.Sort

theorem heatsF_true {S : Store} {X : List Int} {k i : Nat} (hi : i < X.length) (h : (bnth S.bars (nth X i).toNat).heat = (k : Int)) : heatsF S X k = true := by
  simp only [heatsF, List.any_eq_true, decide_eq_true_eq]; exact ⟨_, nth_mem hi, h⟩
theorem heatsF_none {S : Store} {X : List Int} {k : Nat} (h : ∀ i, i < X.length → (bnth S.bars (nth X i).toNat).heat ≠ (k : Int)) : heatsF S X k = false := by
  cases hf : heatsF S X k
  · rfl
  · simp only [heatsF, List.any_eq_true, decide_eq_true_eq] at hf
    obtain ⟨x, hx, e⟩ := hf
    obtain ⟨i, hi, rfl⟩ := List.getElem_of_mem hx
    rw [← nth_lt hi] at e
    exact absurd e (h i hi)

set_option maxRecDepth 100000 in
set_option maxHeartbeats 8000000 in
theorem rHeats_err (v : Value) (S : Store) (A : Int) (er : Int) (w : World) (hx : StoreAt w.heap.size w v S) (her : (er == 0) = false)
    (ht : ∀ w, StoreAt w.heap.size w v S → Calls Try.prog 47 #[v, .int .i64 A] w fun e w' => e = .returned (.tuple #[.slice none 0 0, .int .i64 er]) ∧ Below w.heap.size w w') :
    Calls Try.prog 48 #[v, .int .i64 A] w fun e w' => e = .returned (.tuple #[.slice none 0 0, .int .i64 er]) ∧ Below w.heap.size w w' := by
  obtain ⟨a, cap1, b1, off, a2, cap2, b2, off2, rfl, hm, hm2, HA, HC, HA2, HC2⟩ := hx.opened
  have hs := Stat.first hx
  obtain ⟨c0, c1, c2, c3⟩ := box4_of hs.blk
  have HS0 := Lib.hid hs
  have HT := Lib.hid ht
  clear hs hx ht HA HC HA2 HC2
  go_enter Try.func48, Try.ntmps48
  go_wp2_with fail
  refine (HT.out _ HS0.out.st).mono ?_
  rintro e w1 ⟨rfl, hb⟩
  have HB := Lib.hid (HS0.out.next hb).b
  clear hb c0 c1 c2 c3
  go_wp2
  go_ret2
  exact ⟨rfl, HB.out⟩

set_option maxRecDepth 100000 in
set_option maxHeartbeats 8000000 in
theorem rHeats_any (v : Value) (S : Store) (p : Nat) (w : World) (hx : StoreAt w.heap.size w v S) (hV : Valid S) (hp : p < S.pieces.length) (hne : (truthsL S).length ≠ 0) :
    Calls Try.prog 48 #[v, .int .i64 p] w (GaveIntsE (heatsS S p) 0 w) := by
  have hx' := hx
  obtain ⟨a, cap1, b1, off, a2, cap2, b2, off2, rfl, hm, hm2, HA, HC, HA2, HC2⟩ := hx.opened
  obtain ⟨i0, hi, hz0, hz1, hz2⟩ := info_parts Try_infoInt
  have hs := Stat.first hx'
  obtain ⟨c0, c1, c2, c3⟩ := box4_of hs.blk
  have HS0 := Lib.hid hs
  have HV := Lib.hid hV
  have hnb := hV.nb
  have hlt : Hid (∀ x ∈ ofS S p, ∃ j : Nat, x = j ∧ j < S.bars.length) := fun x h => ofS_lt hp h
  have HT := Lib.hid (fun w (h : StoreAt w.heap.size w (.agg #[.slice a S.bars.length cap1, .int .i64 S.kerf, .slice a2 S.pieces.length cap2, .int .i64 S.wrong]) S) => rOf_any _ S p w h hV hp hne)
  have HHS := Lib.hid (show heatsS S p = numsTo (heatsF S (ofS S p)) 10 from rfl)
  have hX6 : (ofS S p).length ≤ 6 := numsTo_length _ _
  obtain ⟨X, hX⟩ : ∃ X, X = ofS S p := ⟨_, rfl⟩
  rw [← hX] at hlt HHS HT hX6
  clear hs hx hx' hX hV hne HA2 HC2
  go_enter Try.func48, Try.ntmps48
  go_wp2_with fail
  refine (HT.out _ HS0.out.st).mono ?_
  rintro e w2 ⟨pv, rfl, hpv, hb⟩
  obtain ⟨a4, cap4, b4, off4, rfl, hl4, HA4, HC4, _⟩ := hpv.opened
  have HS2 := Lib.hid (HS0.out.next hb)
  clear hb hpv c0 c1 c2 c3
  go_wp2
  go_loopw [8, 9] (fun out b wr => ∃ k : Nat, k ≤ 10 ∧ b = .int .i64 k ∧ Hid (wr.ownsRow w2.heap.size 3 1 out (numsTo (heatsF S X) k).length ((numsTo (heatsF S X) k).map (Value.int .i64))) ∧ Hid (Below w2.heap.size w2 wr)) (fun _ b _ => 10 - (intOf b).toNat)
  case atStart => exact ⟨0, Nat.zero_le _, rfl, World.ownsRow_nil _ _ _ _, Below.refl _ _⟩
  case round =>
    obtain ⟨k, hk, rfl, hown, hbr⟩ := hrel
    obtain ⟨oA, ocap, rfl, _⟩ := own_form hown.out
    by_cases hlt10 : k < 10
    · have hk1 : (k : Int) ≤ 9 := by omega
      go_wp2
      go_loopw [8, 10] (fun o i wi => ∃ j : Nat, j ≤ X.length ∧ i = .int .i64 j ∧ o = .slice oA (numsTo (heatsF S X) k).length ocap ∧ Hid (∀ i, i < j → (bnth S.bars (nth X i).toNat).heat ≠ (k : Int)) ∧ Hid (wi.ownsRow w2.heap.size 3 1 o (numsTo (heatsF S X) k).length ((numsTo (heatsF S X) k).map (Value.int .i64))) ∧ Hid (Below w2.heap.size w2 wi)) (fun _ i _ => X.length - (intOf i).toNat)
      case atStart => exact ⟨0, Nat.zero_le _, rfl, rfl, fun i hi => absurd hi (by omega), hown, hbr⟩
      case round =>
        clear hown hbr
        obtain ⟨j, hj, rfl, rfl, hno, hown, hbr⟩ := hrel
        have hst := HS2.out.next hbr.out
        obtain ⟨c0, c1, c2, c3⟩ := box4_of hst.blk
        by_cases hjl : j < X.length
        · have hj0 : (0 : Int) ≤ (j : Int) := by omega
          have hj1 : (j : Int) < (X.length : Int) := by omega
          obtain ⟨rfl, hb4⟩ := HA4.out (by omega)
          obtain ⟨m, hj2, hjb⟩ := hlt.out _ (nth_mem hjl)
          have d := (hbr.out.cell (p := ⟨b4, off4 + j, none⟩) hb4).trans (HC4.out j hjl)
          rw [hj2] at d
          obtain ⟨rfl, hb1⟩ := HA.out (by omega)
          have d1 := (hst.b.cell (p := ⟨b1, off + m * 2, none⟩) hb1).trans (HC.out m hjb).1
          have hm0 : (0 : Int) ≤ (m : Int) := by omega
          have hm1 : (m : Int) < (S.bars.length : Int) := by omega
          have HST := Lib.hid hst
          have HJ := Lib.hid hj2
          clear hst hj2
          cases hq : ((bnth S.bars m).heat == (k : Int))
          · have HNO := Lib.hid (show ∀ i, i < j + 1 → (bnth S.bars (nth X i).toNat).heat ≠ (k : Int) from fun i hi => by
              by_cases e : i = j
              · subst e; rw [HJ.out, Int.toNat_natCast]; simpa using hq
              · exact hno.out i (by omega))
            go_wp2
            go_quiet (fail)
            go_wp2
            exact ⟨⟨j + 1, by omega, by go_num, rfl, HNO, own_below hown.out (drewN_below (Below.refl _ _) _), drewN_below hbr.out _⟩, by simp [intOf]; omega⟩
          · have HF := Lib.hid (heatsF_true (S := S) hjl (show (bnth S.bars (nth X j).toNat).heat = (k : Int) from by rw [HJ.out, Int.toNat_natCast]; simpa using hq))
            have hle := numsTo_length (heatsF S X) k
            go_wp2
            go_quiet (fail)
            generalize hwd : wr.drewN _ = wd
            have hownd := Lib.hid (show wd.ownsRow _ _ _ _ _ _ from by rw [← hwd]; exact own_below hown.out (drewN_below (Below.refl _ wr) _))
            have hbrd := Lib.hid (show Below w2.heap.size w2 wd from by rw [← hwd]; exact drewN_below hbr.out _)
            clear hwd
            clear c0 c1 c2 c3 d d1
            go_wp2_with (at_builtin; refine wpList_append_own _ rfl _ _ 26 rfl w2.heap.size 3 i0 (.int .i64 0) 1 8 Try.underlying26 hi hz0 hz1 hz2 rfl (by decide) _ _ _ rfl (hownd.out.alloc _) ⟨wd.heap.size, 0, none⟩ 1 1 [.int .i64 k] rfl rfl ?c1 ?c2 ?c3 ?c4 ?c5 ?_)
            case c1 => exact cell_one_new _ _ _
            case c2 => simp [Value.oneCell']
            case c3 => unfold maxLen; omega
            case c4 => omega
            case c5 => have := hbrd.out.size; simp; omega
            intro v' w1 hown' hgrow _
            have hw1 : Below w2.heap.size w2 w1 := (hbrd.out.alloc hbrd.out.size _).grown hgrow (by have := hbrd.out.size; simp; omega) (fun j e => (hownd.out.lt j e).1)
            have HO1 := Lib.hid (show w1.ownsRow w2.heap.size 3 1 v' (numsTo (heatsF S X) (k + 1)).length ((numsTo (heatsF S X) (k + 1)).map (Value.int .i64)) from by
              rw [numsTo_yes HF.out, List.length_append, List.map_append]; exact hown')
            have HW1 := Lib.hid hw1
            clear hown' hgrow hw1
            go_wp2
            exact ⟨⟨k + 1, by omega, by go_num, HO1, HW1⟩, by simp [intOf]; omega⟩
        · obtain rfl : X.length = j := by omega
          have HF := Lib.hid (heatsF_none (S := S) hno.out)
          have HST := Lib.hid hst
          clear hst c0 c1 c2 c3
          go_wp2
          exact ⟨⟨k + 1, by omega, by go_num, by rw [numsTo_no HF.out]; exact hown, hbr⟩, by simp [intOf]; omega⟩
    · obtain rfl : 10 = k := by omega
      go_wp2
      go_ret2
      exact ⟨_, rfl, by rw [HHS.out]; exact ints_of_own hown.out (fun x hx => by obtain ⟨j, hj, rfl, _⟩ := mem_numsTo.1 hx; exact I64_small (by omega) (by omega)), (HS2.out.next hbr.out).b⟩
end Go.Proofs.Ytjflpmhlodgadaa
