/-
  Walks: what the reference asks of one sawing.
-/
import Derived.Test.YtjflpmhlodgadaaW2
namespace Go.Proofs.Ytjflpmhlodgadaa
open Go.RowKit

set_option maxHeartbeats 400000 in
theorem rwithin_any (n lo hi : Int) (w : World) :
    Calls Try.prog 37 #[.int .i64 n, .int .i64 lo, .int .i64 hi] w fun e w' => e = .returned (.bool (wB n lo hi)) ∧ w = w' := by
  cases h : wB n lo hi
  · by_cases h0 : lo ≤ n
    · have h1 : ¬ n ≤ hi := by rcases wB_false.1 h with h1 | h1 <;> omega
      clear h
      go_enter Try.func37, Try.ntmps37
      go_wp2
      go_ret
      exact ⟨ret_bool (by first | (simp; done) | (simp; omega)), rfl⟩
    · clear h
      go_enter Try.func37, Try.ntmps37
      go_wp2
      go_ret
      exact ⟨ret_bool (by first | (simp; done) | (simp; omega)), rfl⟩
  · obtain ⟨h1, h2⟩ := wB_iff.1 h
    clear h
    go_enter Try.func37, Try.ntmps37
    go_wp2
    go_ret
    exact ⟨ret_bool (by first | (simp; done) | (simp; omega)), rfl⟩
theorem rwithin_to {n lo hi : Int} {b : Bool} (h : wB n lo hi = b) (w : World) :
    Calls Try.prog 37 #[.int .i64 n, .int .i64 lo, .int .i64 hi] w fun e w' => e = .returned (.bool b) ∧ w = w' := h ▸ rwithin_any n lo hi w

theorem inB_no_of {xs : List Int} {x : Int} {k : Nat} (h : inB xs x = false) (hk : k < xs.length) : (nth xs k == x) = false := by
  simp only [inB, decide_eq_false_iff_not] at h
  have := nth_mem hk
  simp only [beq_eq_false_iff_ne]
  intro e
  exact h (e ▸ this)

set_option maxHeartbeats 400000 in
theorem rin_any (v : Value) (xs : List Int) (x : Int) (w : World) {B : Nat} (hx : IntsAt B w v xs) :
    Calls Try.prog 32 #[v, .int .i64 x] w fun e w' => e = .returned (.bool (inB xs x)) ∧ w = w' := by
  obtain ⟨a, cap, b, off, rfl, hm, HA, HC, HW⟩ := hx.opened
  clear hx
  go_enter Try.func32, Try.ntmps32
  go_wp2
  go_loop [5] (fun i => ∃ k : Nat, k ≤ xs.length ∧ i = .int .i64 k ∧ Hid (∀ i, i < k → x ≠ nth xs i)) (fun i => xs.length - (intOf i).toNat)
  case atStart => exact ⟨0, Nat.zero_le _, rfl, fun i hi => by omega⟩
  case round =>
    obtain ⟨k, hk, rfl, hall⟩ := hrel
    by_cases hlt : k < xs.length
    · obtain ⟨rfl, hb⟩ := HA.out (by omega)
      have hcell := HC.out k hlt
      by_cases he : x = nth xs k
      · have hn : (nth xs k == x) = true := by simp [he]
        have HE := Lib.hid he
        clear he
        go_wp2
        go_ret
        exact ⟨ret_bool (inB_yes hlt HE.out).symm, rfl⟩
      · have hn : (nth xs k == x) = false := by simpa using (fun h => he h.symm)
        have HE := Lib.hid he
        clear he
        go_wp2
        exact ⟨⟨k + 1, by omega, by go_num, fun i hi => by by_cases h : i = k; exact h ▸ HE.out; exact hall.out i (by omega)⟩, by simp [intOf]; omega⟩
    · go_wp2
      go_ret
      exact ⟨ret_bool (by rw [inB_no (allTo_true (fun i hi => by simpa using hall.out i (by omega)))]), rfl⟩
theorem rin_to {v : Value} {xs : List Int} {x : Int} {w : World} {B : Nat} {r : Bool} (h : inB xs x = r) (hx : IntsAt B w v xs) :
    Calls Try.prog 32 #[v, .int .i64 x] w fun e w' => e = .returned (.bool r) ∧ w = w' := h ▸ rin_any v xs x w hx

set_option maxHeartbeats 400000 in
theorem rIsPiece_any (v : Value) (S : Store) (p : Int) (w : World) {B : Nat} (hx : StoreAt B w v S) :
    Calls Try.prog 22 #[v, .int .i64 p] w fun e w' => e = .returned (.bool (wB p 0 (S.pieces.length - 1))) ∧ Below w.heap.size w w' := by
  obtain ⟨a, cap, b, off, a2, cap2, b2, off2, rfl, hm, hm2, HA, HC, HA2, HC2⟩ := hx.opened
  clear hx
  go_enter Try.func22, Try.ntmps22
  go_wp2_with (go_at_call 37; refine (rwithin_any _ _ _ _).mono ?_; rintro e w' ⟨rfl, rfl⟩)
  go_ret
  exact ⟨rfl, by go_grown⟩

set_option maxHeartbeats 400000 in
theorem rIsWrong_any (v lv : Value) (S : Store) (L : List Int) (p : Int) (w : World) {B : Nat} (hx : StoreAt B w v S) (hB : B ≤ w.heap.size) (hL : IntsAt B w lv L) (hO : OkBars S L) (hp0 : 0 ≤ p) (hp : p < L.length) :
    Calls Try.prog 23 #[v, lv, .int .i64 p] w fun e w' => e = .returned (.bool (wrongAt S p.toNat (nth L p.toNat).toNat)) ∧ Below w.heap.size w w' := by
  obtain ⟨p, rfl⟩ := Int.eq_ofNat_of_zero_le hp0
  rw [Int.toNat_natCast]
  have hp1 : p < L.length := by omega
  have hp' : p < S.pieces.length := Nat.lt_of_lt_of_le hp1 hO.1
  obtain ⟨o1, o2⟩ := hO.2 p hp1
  obtain ⟨b, hbe⟩ := Int.eq_ofNat_of_zero_le o1
  rw [hbe] at o1 o2 ⊢
  rw [Int.toNat_natCast]
  have hb' : b < S.bars.length := by omega
  obtain ⟨a, cap, b1, off, a2, cap2, b2, off2, rfl, hm, hm2, HA, HC, HA2, HC2⟩ := hx.opened
  obtain ⟨a4, cap4, b4, off4, rfl, hm4, HA4, HC4, _⟩ := hL.opened
  clear hx hL hO
  obtain ⟨rfl, hlt1⟩ := HA.out (by omega)
  obtain ⟨rfl, hlt2⟩ := HA2.out (by omega)
  obtain ⟨rfl, hlt4⟩ := HA4.out (by omega)
  have d0 := (HC.out b hb').1
  have d4 := HC4.out p hp1
  rw [hbe] at d4
  obtain ⟨hv, d1, hI⟩ := (HC2.out p hp').2
  obtain ⟨a3, cap3, b3, off3, hveq, hm3, _⟩ := hI.opened
  subst hveq
  clear hbe
  have e1 : b1 < w.heap.size := by omega
  have e2 : b2 < w.heap.size := by omega
  have e4 : b4 < w.heap.size := by omega
  go_enter Try.func23, Try.ntmps23
  go_wp2
  go_quiet ((go_at_call 32; exact Calls.quiet_of_same ((rin_any _ _ _ _ (hI.below (drewN_below ((Below.refl _ _).alloc hB _) _))).mono fun _ _ h => ⟨h.1, h.2.symm⟩)))
  go_wp2
  go_ret
  exact ⟨rfl, drewN_below ((Below.refl _ _).alloc (Nat.le_refl _) _) _⟩
theorem rIsWrong_to {v lv : Value} {S : Store} {L : List Int} {p : Int} {w : World} {B : Nat} {r : Bool} (h : wrongAt S p.toNat (nth L p.toNat).toNat = r) (hx : StoreAt B w v S) (hB : B ≤ w.heap.size) (hL : IntsAt B w lv L) (hO : OkBars S L) (hp0 : 0 ≤ p) (hp : p < L.length) :
    Calls Try.prog 23 #[v, lv, .int .i64 p] w fun e w' => e = .returned (.bool r) ∧ Below w.heap.size w w' := h ▸ rIsWrong_any v lv S L p w hx hB hL hO hp0 hp

set_option maxHeartbeats 400000 in
theorem rWrongs_any (v lv : Value) (S : Store) (L : List Int) (w : World) {B : Nat} (hx : StoreAt B w v S) (hB : B ≤ w.heap.size) (hL : IntsAt B w lv L) (hO : OkBars S L) :
    Calls Try.prog 20 #[v, lv] w fun e w' => e = .returned (.int .i64 (wrongs S L)) ∧ Below w.heap.size w w' := by
  have hx' := hx
  have hL' := hL
  obtain ⟨a, cap, b1, off, a2, cap2, b2, off2, rfl, hm, hm2, HA, HC, HA2, HC2⟩ := hx.opened
  obtain ⟨a3, cap3, b3, off3, rfl, hm3, HA3, HC3, _⟩ := hL.opened
  have HO := Lib.hid hO
  clear hx hL hO HA HC HA2 HC2
  go_enter Try.func20, Try.ntmps20
  go_wp2
  go_loopw [5, 6] (fun c i wr => ∃ k : Nat, k ≤ L.length ∧ i = .int .i64 k ∧ c = .int .i64 (wrongsTo S L k) ∧ Below (w.heap.size + 1) (w.alloc _) wr) (fun _ i _ => L.length - (intOf i).toNat)
  case atStart => exact ⟨0, Nat.zero_le _, rfl, rfl, Below.refl _ _⟩
  case round =>
    obtain ⟨k, hk, rfl, rfl, hbl⟩ := hrel
    have hw := boxed hbl
    have hsz := boxed_size hbl
    obtain ⟨c0, c1, c2, c3⟩ := box4 hbl
    obtain ⟨hle1, hle2⟩ := wrongsTo_le S L k
    by_cases hlt : k < L.length
    · cases hr : wrongAt S k (nth L k).toNat
      all_goals
        have HQ := Lib.hid hr
        clear hr
        go_wp2_with (go_at_call 23; go_must (refine (rIsWrong_to HQ.out (hx'.below (hw.mono hB)) (by omega) (hL'.below (hw.mono hB)) HO.out (by omega) (by omega)).mono ?_); rintro e w' ⟨rfl, hb⟩)
        exact ⟨⟨k + 1, by omega, by go_num, by simp [wrongsTo, HQ.out], hbl.trans (hb.mono (by omega))⟩, by simp [intOf]; omega⟩
    · go_wp2
      go_ret
      exact ⟨ret_int (by rw [wrongs, show L.length = k by omega]), hw⟩

theorem rest_v0 {A c k : Int} (h1 : -100000 ≤ A) (h2 : A ≤ 100000) (hc : c ≤ 0) : wrap64 (A - wrap64 (k * 0)) = A - max c 0 * k := by
  rw [Int.max_eq_right hc, Int.zero_mul, Int.mul_zero, IntWalk.wrap64_in 0 (by omega), IntWalk.wrap64_in _ (by omega)]
theorem rest_v1 {A c k : Int} (h1 : -100000 ≤ A) (h2 : A ≤ 100000) (hc : 0 ≤ c) (hc2 : c ≤ 1000) (hk : 0 ≤ k) (hk2 : k ≤ 20) : wrap64 (A - wrap64 (k * c)) = A - max c 0 * k := by
  rw [Int.mul_comm k c]; exact rest_w1 h1 h2 hc hc2 hk hk2

set_option maxHeartbeats 400000 in
theorem rRestOf_any (v lv : Value) (S : Store) (L : List Int) (bar : Int) (w : World) {B : Nat} (hV : Valid S) (hx : StoreAt B w v S) (hB : B ≤ w.heap.size) (hL : IntsAt B w lv L) (hO : L.length ≤ S.pieces.length) (hb0 : 0 ≤ bar) (hb : bar < S.bars.length) :
    Calls Try.prog 25 #[v, lv, .int .i64 bar] w fun e w' => e = .returned (.int .i64 (restS S L bar)) ∧ Below w.heap.size w w' := by
  obtain ⟨a, cap, b1, off, a2, cap2, b2, off2, rfl, hm, hm2, HA, HC, HA2, HC2⟩ := hx.opened
  obtain ⟨a3, cap3, b3, off3, rfl, hm3, HA3, HC3, _⟩ := hL.opened
  obtain ⟨m, rfl⟩ := Int.eq_ofNat_of_zero_le hb0
  have hm0 : m < S.bars.length := by omega
  clear hx hL
  obtain ⟨rfl, hb1⟩ := HA.out (by omega)
  have d0 := (HC.out m hm0).2
  have e1 : b1 < w.heap.size := by omega
  obtain ⟨q1, q2⟩ := hV.blong m hm0
  obtain ⟨q3, q4⟩ := hV.kerf
  have q5 := hV.np
  have HV := Lib.hid hV
  clear hV
  go_enter Try.func25, Try.ntmps25
  go_wp2
  go_loopw [7, 8, 9] (fun l c i wr => ∃ k : Nat, k ≤ L.length ∧ i = .int .i64 k ∧ l = .int .i64 ((bnth S.bars m).long - sumTo S L m k) ∧ c = .int .i64 (countTo L m k) ∧ Below (w.heap.size + 1) (w.alloc _) wr) (fun _ _ i _ => L.length - (intOf i).toNat)
  case atStart => exact ⟨0, Nat.zero_le _, rfl, by simp [sumTo], by simp [countTo], Below.refl _ _⟩
  case round =>
    obtain ⟨k, hk, rfl, rfl, rfl, hbl⟩ := hrel
    have hw := boxed hbl
    have hsz := boxed_size hbl
    obtain ⟨c0, c1, c2, c3⟩ := box4 hbl
    obtain ⟨h1, h2⟩ := sumTo_le HV.out L m k (by omega)
    obtain ⟨h3, h4⟩ := countTo_le L m k
    by_cases hlt : k < L.length
    · obtain ⟨rfl, hb3⟩ := HA3.out (by omega)
      have d := (hw.cell (p := ⟨b3, off3 + k, none⟩) (Nat.lt_of_lt_of_le hb3 hB)).trans (HC3.out k hlt)
      obtain ⟨rfl, hb2⟩ := HA2.out (by omega)
      have d2 := (hw.cell (p := ⟨b2, off2 + k * 2, none⟩) (Nat.lt_of_lt_of_le hb2 hB)).trans (HC2.out k (by omega)).1
      obtain ⟨h5, h6⟩ := HV.out.plong k (by omega)
      have hk2 : k < S.pieces.length := by omega
      by_cases he : nth L k = m
      · have hee : (nth L k == (m : Int)) = true := by simpa using he
        have HE := Lib.hid he
        clear he
        go_wp2
        exact ⟨⟨k + 1, by omega, by go_num, by simp [sumTo, HE.out]; try omega, by simp [countTo, HE.out]; try omega, hbl⟩, by simp [intOf]; omega⟩
      · have hee : (nth L k == (m : Int)) = false := by simpa using he
        have HE := Lib.hid he
        clear he
        go_wp2
        exact ⟨⟨k + 1, by omega, by go_num, by simp [sumTo, HE.out], by simp [countTo, HE.out], hbl⟩, by simp [intOf]; omega⟩
    · obtain rfl : L.length = k := by omega
      have hA1 : -100000 ≤ (bnth S.bars m).long - sumTo S L m L.length := by omega
      have hA2 : (bnth S.bars m).long - sumTo S L m L.length ≤ 100000 := by omega
      have hf1 : countTo L m L.length - 1 ≤ 0 → wrap64 ((bnth S.bars m).long - sumTo S L m L.length - wrap64 (S.kerf * 0)) = restS S L m := fun h => rest_v0 hA1 hA2 h
      have hf2 : 0 ≤ countTo L m L.length - 1 → wrap64 ((bnth S.bars m).long - sumTo S L m L.length - wrap64 (S.kerf * (countTo L m L.length - 1))) = restS S L m := fun h => rest_v1 hA1 hA2 h (by omega) q3 q4
      have HF1 := Lib.hid hf1
      have HF2 := Lib.hid hf2
      clear hf1 hf2
      go_wp2
      all_goals go_ret
      all_goals first | exact ⟨ret_int (HF1.out (by omega)), hw⟩ | exact ⟨ret_int (by simpa using HF1.out (by omega)), hw⟩ | exact ⟨ret_int (HF2.out (by omega)), hw⟩

set_option maxHeartbeats 400000 in
theorem rfits_any (v lv : Value) (S : Store) (L : List Int) (w : World) {B : Nat} (hV : Valid S) (hx : StoreAt B w v S) (hB : B ≤ w.heap.size) (hL : IntsAt B w lv L) (hO : L.length ≤ S.pieces.length) :
    Calls Try.prog 56 #[v, lv] w fun e w' => e = .returned (.bool (fitsB S L)) ∧ Below w.heap.size w w' := by
  have hx' := hx
  have hL' := hL
  obtain ⟨a, cap, b1, off, a2, cap2, b2, off2, rfl, hm, hm2, HA, HC, HA2, HC2⟩ := hx.opened
  obtain ⟨a3, cap3, b3, off3, rfl, hm3, HA3, HC3, _⟩ := hL.opened
  clear hx hL HA HC HA2 HC2
  have HV := Lib.hid hV
  clear hV
  go_enter Try.func56, Try.ntmps56
  go_wp2
  go_loopw [5] (fun i wr => ∃ k : Nat, k ≤ S.bars.length ∧ i = .int .i64 k ∧ Hid (allTo (fun b => decide (0 ≤ restS S L b)) k = true) ∧ Below (w.heap.size + 1) (w.alloc _) wr) (fun i _ => S.bars.length - (intOf i).toNat)
  case atStart => exact ⟨0, Nat.zero_le _, rfl, rfl, Below.refl _ _⟩
  case round =>
    obtain ⟨k, hk, rfl, hall, hbl⟩ := hrel
    have hw := boxed hbl
    have hsz := boxed_size hbl
    obtain ⟨c0, c1, c2, c3⟩ := box4 hbl
    by_cases hlt : k < S.bars.length
    · by_cases hr : 0 ≤ restS S L k
      · go_wp2_with (go_at_call 25; go_must (refine (rRestOf_any _ _ _ _ _ _ HV.out (hx'.below (hw.mono hB)) (by omega) (hL'.below (hw.mono hB)) hO (by omega) (by omega)).mono ?_); rintro e w' ⟨rfl, hb⟩)
        exact ⟨⟨k + 1, by omega, by go_num, allTo_step hall (by simpa using hr), hbl.trans (hb.mono (by omega))⟩, by simp [intOf]; omega⟩
      · go_wp2_with (go_at_call 25; go_must (refine (rRestOf_any _ _ _ _ _ _ HV.out (hx'.below (hw.mono hB)) (by omega) (hL'.below (hw.mono hB)) hO (by omega) (by omega)).mono ?_); rintro e w' ⟨rfl, hb⟩)
        go_ret
        exact ⟨ret_bool (by rw [fitsB, allTo_false hlt (by simpa using hr)]), hw.trans (hb.mono (by omega))⟩
    · go_wp2
      go_ret
      exact ⟨ret_bool (by rw [fitsB, show S.bars.length = k by omega, hall.out]), hw⟩
theorem rfits_to {v lv : Value} {S : Store} {L : List Int} {w : World} {B : Nat} {r : Bool} (h : fitsB S L = r) (hV : Valid S) (hx : StoreAt B w v S) (hB : B ≤ w.heap.size) (hL : IntsAt B w lv L) (hO : L.length ≤ S.pieces.length) :
    Calls Try.prog 56 #[v, lv] w fun e w' => e = .returned (.bool r) ∧ Below w.heap.size w w' := h ▸ rfits_any v lv S L w hV hx hB hL hO

set_option maxHeartbeats 400000 in
theorem rIsSawing_any (v lv : Value) (S : Store) (L : List Int) (w : World) {B : Nat} (hx : StoreAt B w v S) (hB : B ≤ w.heap.size) (hL : IntsAt B w lv L) :
    Calls Try.prog 55 #[v, lv] w fun e w' => e = .returned (.bool (sawingB S L)) ∧ Below w.heap.size w w' := by
  obtain ⟨a, cap, b1, off, a2, cap2, b2, off2, rfl, hm, hm2, HA, HC, HA2, HC2⟩ := hx.opened
  obtain ⟨a3, cap3, b3, off3, rfl, hm3, HA3, HC3, HI⟩ := hL.opened
  clear hx hL HA HC HA2 HC2
  go_enter Try.func55, Try.ntmps55
  go_wp2
  go_loopw [5] (fun i wr => ∃ k : Nat, k ≤ L.length ∧ i = .int .i64 k ∧ Hid (allTo (fun i => wB (nth L i) 0 (S.bars.length - 1)) k = true) ∧ Below (w.heap.size + 1) (w.alloc _) wr) (fun i _ => L.length - (intOf i).toNat)
  case atStart => exact ⟨0, Nat.zero_le _, rfl, rfl, Below.refl _ _⟩
  case round =>
    obtain ⟨k, hk, rfl, hall, hbl⟩ := hrel
    have hw := boxed hbl
    have hsz := boxed_size hbl
    obtain ⟨c0, c1, c2, c3⟩ := box4 hbl
    by_cases hlt : k < L.length
    · obtain ⟨rfl, hb3⟩ := HA3.out (by omega)
      have d := (hw.cell (p := ⟨b3, off3 + k, none⟩) (Nat.lt_of_lt_of_le hb3 hB)).trans (HC3.out k hlt)
      cases hr : wB (nth L k) 0 (S.bars.length - 1)
      all_goals
        have HQ := Lib.hid hr
        clear hr
        go_wp2
        go_quiet ((go_at_call 37; exact Calls.quiet_of_same ((rwithin_to HQ.out _).mono fun _ _ h => ⟨h.1, h.2.symm⟩)))
        go_wp2
      · go_ret
        exact ⟨ret_bool (by rw [sawingB, allTo_false hlt HQ.out]; simp), drewN_below hw _⟩
      · exact ⟨⟨k + 1, by omega, by go_num, allTo_step hall HQ.out, drewN_below hbl _⟩, by simp [intOf]; omega⟩
    · obtain rfl : L.length = k := by omega
      go_wp2
      go_ret
      exact ⟨ret_bool (by rw [sawingB, hall.out, Bool.and_true]; simp [Bool.beq_eq_decide_eq]; omega), hw⟩
theorem rIsSawing_to {v lv : Value} {S : Store} {L : List Int} {w : World} {B : Nat} {r : Bool} (h : sawingB S L = r) (hx : StoreAt B w v S) (hB : B ≤ w.heap.size) (hL : IntsAt B w lv L) :
    Calls Try.prog 55 #[v, lv] w fun e w' => e = .returned (.bool r) ∧ Below w.heap.size w w' := h ▸ rIsSawing_any v lv S L w hx hB hL
end Go.Proofs.Ytjflpmhlodgadaa
