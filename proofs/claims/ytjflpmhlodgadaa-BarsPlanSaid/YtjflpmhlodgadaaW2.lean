/-
  Walks: what the package bars asks of one sawing.
-/
import Derived.Test.YtjflpmhlodgadaaW1
namespace Go.Proofs.Ytjflpmhlodgadaa
open Go.RowKit

set_option maxHeartbeats 400000 in
theorem index_no (v : Value) (xs : List Int) (x : Int) (w : World) {B : Nat} (hx : IntsAt B w v xs) (h : inB xs x = false) :
    Calls Try.prog 82 #[v, .int .i64 x] w fun e w' => e = .returned (.int .i64 (-1)) ∧ w = w' := by
  have hne : Hid (∀ i, i < xs.length → x ≠ nth xs i) := fun i hi he => by rw [inB_yes hi he] at h; cases h
  clear h
  obtain ⟨a, cap, b, off, rfl, hm, HA, HC, HW⟩ := hx.opened
  clear hx
  go_enter Try.func82, Try.ntmps82
  go_wp2
  go_loop [8] (fun i => ∃ k : Nat, k ≤ xs.length ∧ i = .int .i64 k) (fun i => xs.length - (intOf i).toNat)
  case atStart => exact ⟨0, Nat.zero_le _, rfl⟩
  case round =>
    obtain ⟨k, hk, rfl⟩ := hrel
    by_cases hlt : k < xs.length
    · obtain ⟨rfl, hb⟩ := HA.out (by omega)
      have hcell := HC.out k hlt
      have hn : (x == nth xs k) = false := by have := hne.out k hlt; simpa using this
      go_wp2
      exact ⟨⟨k + 1, by omega, by go_num⟩, by simp [intOf]; omega⟩
    · go_wp2
      go_ret
      exact ⟨rfl, rfl⟩

theorem least_ix {xs : List Int} {x : Int} (h : inB xs x = true) : ∃ j, j < xs.length ∧ x = nth xs j ∧ ∀ i, i < j → x ≠ nth xs i := by
  have h1 : ∃ n, n ≤ xs.length ∧ ∃ j, j < n ∧ x = nth xs j := by
    simp only [inB, decide_eq_true_eq, mem_iff_nth] at h
    obtain ⟨i, hi, he⟩ := h
    exact ⟨xs.length, Nat.le_refl _, i, hi, he.symm⟩
  obtain ⟨n, hn, j, hj, he⟩ := h1
  induction n generalizing j with
  | zero => omega
  | succ n ih =>
    by_cases hx : ∃ j, j < n ∧ x = nth xs j
    · obtain ⟨j, hj, he⟩ := hx
      exact ih (by omega) j hj he
    · exact ⟨j, by omega, he, fun i hi hc => hx ⟨i, by omega, hc⟩⟩

set_option maxHeartbeats 400000 in
theorem index_yes (v : Value) (xs : List Int) (x : Int) (w : World) {B : Nat} (hx : IntsAt B w v xs) (j : Nat) (hj : j < xs.length) (hxj : Hid (x = nth xs j)) (hne : Hid (∀ i, i < j → x ≠ nth xs i)) :
    Calls Try.prog 82 #[v, .int .i64 x] w fun e w' => e = .returned (.int .i64 j) ∧ w = w' := by
  obtain ⟨a, cap, b, off, rfl, hm, HA, HC, HW⟩ := hx.opened
  clear hx
  go_enter Try.func82, Try.ntmps82
  go_wp2
  go_loop [8] (fun i => ∃ k : Nat, k ≤ j ∧ i = .int .i64 k) (fun i => xs.length - (intOf i).toNat)
  case atStart => exact ⟨0, Nat.zero_le _, rfl⟩
  case round =>
    obtain ⟨k, hk, rfl⟩ := hrel
    obtain ⟨rfl, hb⟩ := HA.out (by omega)
    have hcell := HC.out k (by omega)
    by_cases hlt : k < j
    · have hn : (x == nth xs k) = false := by have := hne.out k hlt; simpa using this
      go_wp2
      exact ⟨⟨k + 1, by omega, by go_num⟩, by simp [intOf]; omega⟩
    · obtain rfl : k = j := by omega
      have hn : (x == nth xs k) = true := by have := hxj.out; simpa using this
      go_wp2
      go_ret
      exact ⟨rfl, rfl⟩

set_option maxHeartbeats 400000 in
theorem contains_any (v : Value) (xs : List Int) (x : Int) (w : World) {B : Nat} (hx : IntsAt B w v xs) :
    Calls Try.prog 80 #[v, .int .i64 x] w fun e w' => e = .returned (.bool (inB xs x)) ∧ w = w' := by
  have hx' := hx
  obtain ⟨a, cap, b, off, rfl, hm, HA, HC, HW⟩ := hx.opened
  clear hx HA HC HW
  cases h : inB xs x
  · have HN := Lib.hid h
    clear h
    go_enter Try.func80, Try.ntmps80
    go_wp2_with (go_at_call 82; refine (index_no _ _ _ _ hx' HN.out).mono ?_; rintro e w' ⟨rfl, rfl⟩)
    go_ret
    exact ⟨rfl, rfl⟩
  · obtain ⟨j, hj, he, hne⟩ := least_ix h
    have HE := Lib.hid he
    have HN := Lib.hid hne
    clear h he hne
    go_enter Try.func80, Try.ntmps80
    go_wp2_with (go_at_call 82; refine (index_yes _ _ _ _ hx' j hj HE HN).mono ?_; rintro e w' ⟨rfl, rfl⟩)
    go_ret
    exact ⟨ret_bool (by simp), rfl⟩
theorem contains_to {v : Value} {xs : List Int} {x : Int} {w : World} {B : Nat} {r : Bool} (h : inB xs x = r) (hx : IntsAt B w v xs) :
    Calls Try.prog 80 #[v, .int .i64 x] w fun e w' => e = .returned (.bool r) ∧ w = w' := h ▸ contains_any v xs x w hx

set_option maxHeartbeats 400000 in
theorem isPiece_any (v : Value) (S : Store) (p : Int) (w : World) {B : Nat} (hx : StoreAt B w v S) :
    Calls Try.prog 70 #[v, .int .i64 p] w fun e w' => e = .returned (.bool (wB p 0 (S.pieces.length - 1))) ∧ Below w.heap.size w w' := by
  obtain ⟨a, cap, b, off, a2, cap2, b2, off2, rfl, hm, hm2, HA, HC, HA2, HC2⟩ := hx.opened
  clear hx
  go_enter Try.func70, Try.ntmps70
  go_wp2_with (go_at_call 66; refine (within_any _ _ _ _).mono ?_; rintro e w' ⟨rfl, rfl⟩)
  go_ret
  exact ⟨rfl, by go_grown⟩

set_option maxHeartbeats 400000 in
theorem isWrong_any (v : Value) (S : Store) (p b : Int) (w : World) {B : Nat} (hx : StoreAt B w v S) (hB : B ≤ w.heap.size) (hp0 : 0 ≤ p) (hp : p < S.pieces.length) (hb0 : 0 ≤ b) (hb : b < S.bars.length) :
    Calls Try.prog 64 #[v, .int .i64 p, .int .i64 b] w fun e w' => e = .returned (.bool (wrongAt S p.toNat b.toNat)) ∧ Below w.heap.size w w' := by
  obtain ⟨p, rfl⟩ := Int.eq_ofNat_of_zero_le hp0
  obtain ⟨b, rfl⟩ := Int.eq_ofNat_of_zero_le hb0
  rw [Int.toNat_natCast, Int.toNat_natCast]
  have hp' : p < S.pieces.length := by omega
  have hb' : b < S.bars.length := by omega
  obtain ⟨a, cap, b1, off, a2, cap2, b2, off2, rfl, hm, hm2, HA, HC, HA2, HC2⟩ := hx.opened
  clear hx
  obtain ⟨rfl, hlt1⟩ := HA.out (by omega)
  obtain ⟨rfl, hlt2⟩ := HA2.out (by omega)
  have d0 := (HC.out b hb').1
  obtain ⟨hv, d1, hI⟩ := (HC2.out p hp').2
  obtain ⟨a3, cap3, b3, off3, hveq, hm3, _⟩ := hI.opened
  subst hveq
  have e1 : b1 < w.heap.size := by omega
  have e2 : b2 < w.heap.size := by omega
  go_enter Try.func64, Try.ntmps64
  go_wp2
  go_quiet ((go_at_call 80; exact Calls.quiet_of_same ((contains_any _ _ _ _ (hI.below (drewN_below ((Below.refl _ _).alloc hB _) _))).mono fun _ _ h => ⟨h.1, h.2.symm⟩)))
  go_wp2
  go_ret
  exact ⟨rfl, drewN_below ((Below.refl _ _).alloc (Nat.le_refl _) _) _⟩
theorem isWrong_to {v : Value} {S : Store} {p b : Int} {w : World} {B : Nat} {r : Bool} (h : wrongAt S p.toNat b.toNat = r) (hx : StoreAt B w v S) (hB : B ≤ w.heap.size) (hp0 : 0 ≤ p) (hp : p < S.pieces.length) (hb0 : 0 ≤ b) (hb : b < S.bars.length) :
    Calls Try.prog 64 #[v, .int .i64 p, .int .i64 b] w fun e w' => e = .returned (.bool r) ∧ Below w.heap.size w w' := h ▸ isWrong_any v S p b w hx hB hp0 hp hb0 hb

set_option maxHeartbeats 400000 in
theorem wrongMarks_any (v lv : Value) (S : Store) (L : List Int) (w : World) {B : Nat} (hx : StoreAt B w v S) (hB : B ≤ w.heap.size) (hL : IntsAt B w lv L) (hO : OkBars S L) :
    Calls Try.prog 60 #[v, lv] w fun e w' => e = .returned (.int .i64 (wrongs S L)) ∧ Below w.heap.size w w' := by
  have hx' := hx
  obtain ⟨a, cap, b1, off, a2, cap2, b2, off2, rfl, hm, hm2, HA, HC, HA2, HC2⟩ := hx.opened
  obtain ⟨a3, cap3, b3, off3, rfl, hm3, HA3, HC3, _⟩ := hL.opened
  have hO1 := hO.1
  have HO := Lib.hid hO.2
  clear hx hL hO HA HC HA2 HC2
  go_enter Try.func60, Try.ntmps60
  go_wp2
  go_loopw [5, 10] (fun c i wr => ∃ k : Nat, k ≤ L.length ∧ i = .int .i64 k ∧ c = .int .i64 (wrongsTo S L k) ∧ Below (w.heap.size + 1) (w.alloc _) wr) (fun _ i _ => L.length - (intOf i).toNat)
  case atStart => exact ⟨0, Nat.zero_le _, rfl, rfl, Below.refl _ _⟩
  case round =>
    obtain ⟨k, hk, rfl, rfl, hbl⟩ := hrel
    have hw := boxed hbl
    have hsz := boxed_size hbl
    obtain ⟨c0, c1, c2, c3⟩ := box4 hbl
    obtain ⟨hle1, hle2⟩ := wrongsTo_le S L k
    by_cases hlt : k < L.length
    · obtain ⟨rfl, hb3⟩ := HA3.out (by omega)
      have d := (hw.cell (p := ⟨b3, off3 + k, none⟩) (Nat.lt_of_lt_of_le hb3 hB)).trans (HC3.out k hlt)
      obtain ⟨o1, o2⟩ := HO.out k hlt
      cases hr : wrongAt S k (nth L k).toNat
      all_goals
        have HQ := Lib.hid hr
        clear hr
        go_wp2_with (go_at_call 64; go_must (refine (isWrong_to HQ.out (hx'.below (hw.mono hB)) (by omega) (by omega) (by omega) o1 o2).mono ?_); rintro e w' ⟨rfl, hb⟩)
        exact ⟨⟨k + 1, by omega, by go_num, by simp [wrongsTo, HQ.out], hbl.trans (hb.mono (by omega))⟩, by simp [intOf]; omega⟩
    · go_wp2
      go_ret
      exact ⟨ret_int (by rw [wrongs, show L.length = k by omega]), hw⟩

theorem rest_w0 {A c k : Int} (h1 : -100000 ≤ A) (h2 : A ≤ 100000) (hc : c ≤ 0) : wrap64 (A - wrap64 0) = A - max c 0 * k := by
  rw [Int.max_eq_right hc, Int.zero_mul, IntWalk.wrap64_in 0 (by omega), IntWalk.wrap64_in _ (by omega)]
theorem rest_w1 {A c k : Int} (h1 : -100000 ≤ A) (h2 : A ≤ 100000) (hc : 0 ≤ c) (hc2 : c ≤ 1000) (hk : 0 ≤ k) (hk2 : k ≤ 20) : wrap64 (A - wrap64 (c * k)) = A - max c 0 * k := by
  have a1 := Int.mul_nonneg hc hk
  have a2 : c * k ≤ 1000 * 20 := Int.mul_le_mul hc2 hk2 hk (by omega)
  rw [Int.max_eq_left hc, IntWalk.wrap64_in (c * k) (by omega), IntWalk.wrap64_in _ (by omega)]

set_option maxHeartbeats 400000 in
theorem rest_any (v lv : Value) (S : Store) (L : List Int) (bar : Int) (w : World) {B : Nat} (hV : Valid S) (hx : StoreAt B w v S) (hB : B ≤ w.heap.size) (hL : IntsAt B w lv L) (hO : L.length ≤ S.pieces.length) (hb0 : 0 ≤ bar) (hb : bar < S.bars.length) :
    Calls Try.prog 59 #[v, lv, .int .i64 bar] w fun e w' => e = .returned (.int .i64 (restS S L bar)) ∧ Below w.heap.size w w' := by
  obtain ⟨a, cap, b1, off, a2, cap2, b2, off2, rfl, hm, hm2, HA, HC, HA2, HC2⟩ := hx.opened
  obtain ⟨a3, cap3, b3, off3, rfl, hm3, HA3, HC3, _⟩ := hL.opened
  obtain ⟨m, rfl⟩ := Int.eq_ofNat_of_zero_le hb0
  have hm0 : m < S.bars.length := by omega
  clear hx hL
  obtain ⟨rfl, hb1⟩ := HA.out (by omega)
  have d0 := (HC.out m hm0).2
  have e1 : b1 < w.heap.size := by omega
  obtain ⟨q1, q2⟩ := hV.blong m hm0
  obtain ⟨q3, q4⟩ := hV.kerf
  have q5 := hV.np
  have HV := Lib.hid hV
  clear hV
  go_enter Try.func59, Try.ntmps59
  go_wp2
  go_loopw [7, 8, 19] (fun l c i wr => ∃ k : Nat, k ≤ L.length ∧ i = .int .i64 k ∧ l = .int .i64 ((bnth S.bars m).long - sumTo S L m k) ∧ c = .int .i64 (countTo L m k - 1) ∧ Below (w.heap.size + 1) (w.alloc _) wr) (fun _ _ i _ => L.length - (intOf i).toNat)
  case atStart => exact ⟨0, Nat.zero_le _, rfl, by simp [sumTo], by simp [countTo], Below.refl _ _⟩
  case round =>
    obtain ⟨k, hk, rfl, rfl, rfl, hbl⟩ := hrel
    have hw := boxed hbl
    have hsz := boxed_size hbl
    obtain ⟨c0, c1, c2, c3⟩ := box4 hbl
    obtain ⟨h1, h2⟩ := sumTo_le HV.out L m k (by omega)
    obtain ⟨h3, h4⟩ := countTo_le L m k
    by_cases hlt : k < L.length
    · obtain ⟨rfl, hb3⟩ := HA3.out (by omega)
      have d := (hw.cell (p := ⟨b3, off3 + k, none⟩) (Nat.lt_of_lt_of_le hb3 hB)).trans (HC3.out k hlt)
      obtain ⟨rfl, hb2⟩ := HA2.out (by omega)
      have d2 := (hw.cell (p := ⟨b2, off2 + k * 2, none⟩) (Nat.lt_of_lt_of_le hb2 hB)).trans (HC2.out k (by omega)).1
      obtain ⟨h5, h6⟩ := HV.out.plong k (by omega)
      have hk2 : k < S.pieces.length := by omega
      by_cases he : nth L k = m
      · have hee : (nth L k == (m : Int)) = true := by simpa using he
        have HE := Lib.hid he
        clear he
        go_wp2
        exact ⟨⟨k + 1, by omega, by go_num, by simp [sumTo, HE.out]; try omega, by simp [countTo, HE.out]; try omega, hbl⟩, by simp [intOf]; omega⟩
      · have hee : (nth L k == (m : Int)) = false := by simpa using he
        have HE := Lib.hid he
        clear he
        go_wp2
        exact ⟨⟨k + 1, by omega, by go_num, by simp [sumTo, HE.out], by simp [countTo, HE.out], hbl⟩, by simp [intOf]; omega⟩
    · obtain rfl : L.length = k := by omega
      have hA1 : -100000 ≤ (bnth S.bars m).long - sumTo S L m L.length := by omega
      have hA2 : (bnth S.bars m).long - sumTo S L m L.length ≤ 100000 := by omega
      have hf1 : countTo L m L.length - 1 ≤ 0 → wrap64 ((bnth S.bars m).long - sumTo S L m L.length - wrap64 0) = restS S L m := fun h => rest_w0 hA1 hA2 h
      have hf2 : 0 ≤ countTo L m L.length - 1 → wrap64 ((bnth S.bars m).long - sumTo S L m L.length - wrap64 ((countTo L m L.length - 1) * S.kerf)) = restS S L m := fun h => rest_w1 hA1 hA2 h (by omega) q3 q4
      have HF1 := Lib.hid hf1
      have HF2 := Lib.hid hf2
      clear hf1 hf2
      go_wp2
      all_goals go_ret
      all_goals first | exact ⟨ret_int (HF1.out (by omega)), hw⟩ | exact ⟨ret_int (HF2.out (by omega)), hw⟩

set_option maxHeartbeats 400000 in
theorem isSawing_any (v lv : Value) (S : Store) (L : List Int) (w : World) {B : Nat} (hx : StoreAt B w v S) (hB : B ≤ w.heap.size) (hL : IntsAt B w lv L) :
    Calls Try.prog 58 #[v, lv] w fun e w' => e = .returned (.bool (sawingB S L)) ∧ Below w.heap.size w w' := by
  obtain ⟨a, cap, b1, off, a2, cap2, b2, off2, rfl, hm, hm2, HA, HC, HA2, HC2⟩ := hx.opened
  obtain ⟨a3, cap3, b3, off3, rfl, hm3, HA3, HC3, HI⟩ := hL.opened
  clear hx hL HA HC HA2 HC2
  by_cases hl : L.length = S.pieces.length
  case neg =>
    have hn : ((L.length : Int) != (S.pieces.length : Int)) = true := by simp; omega
    go_enter Try.func58, Try.ntmps58
    go_wp2
    go_ret
    exact ⟨ret_bool (by simp [sawingB, hl]), by go_grown⟩
  have hn : ((L.length : Int) != (S.pieces.length : Int)) = false := by simp; omega
  have HL := Lib.hid hl
  clear hl
  go_enter Try.func58, Try.ntmps58
  go_wp2
  go_loopw [15] (fun i wr => ∃ k : Nat, k ≤ L.length ∧ i = .int .i64 k ∧ Hid (allTo (fun i => wB (nth L i) 0 (S.bars.length - 1)) k = true) ∧ Below (w.heap.size + 1) (w.alloc _) wr) (fun i _ => L.length - (intOf i).toNat)
  case atStart => exact ⟨0, Nat.zero_le _, rfl, rfl, Below.refl _ _⟩
  case round =>
    obtain ⟨k, hk, rfl, hall, hbl⟩ := hrel
    have hw := boxed hbl
    have hsz := boxed_size hbl
    obtain ⟨c0, c1, c2, c3⟩ := box4 hbl
    by_cases hlt : k < L.length
    · obtain ⟨rfl, hb3⟩ := HA3.out (by omega)
      have d := (hw.cell (p := ⟨b3, off3 + k, none⟩) (Nat.lt_of_lt_of_le hb3 hB)).trans (HC3.out k hlt)
      cases hr : wB (nth L k) 0 (S.bars.length - 1)
      all_goals
        have HQ := Lib.hid hr
        clear hr
        go_wp2_with (go_at_call 66; refine (within_to HQ.out _).mono ?_; rintro e w' ⟨rfl, rfl⟩)
      · go_ret
        exact ⟨ret_bool (by rw [sawingB, allTo_false hlt HQ.out]; simp), hw⟩
      · exact ⟨⟨k + 1, by omega, by go_num, allTo_step hall HQ.out, hbl⟩, by simp [intOf]; omega⟩
    · go_wp2
      go_ret
      exact ⟨ret_bool (by rw [sawingB, show L.length = k by omega, hall.out, ← show L.length = k by omega]; simp [HL.out]), hw⟩

set_option maxHeartbeats 400000 in
theorem check_any (v : Value) (S : Store) (w : World) (hx : StoreAt w.heap.size w v S) :
    Calls Try.prog 41 #[v] w fun e w' => e = .returned (.int .i64 (if validB S = true then 0 else 10)) ∧ Below w.heap.size w w' := by
  have hx' := hx
  obtain ⟨a, cap, b1, off, a2, cap2, b2, off2, rfl, hm, hm2, HA, HC, HA2, HC2⟩ := hx.opened
  clear hx HA HC HA2 HC2
  have HX := fun o => Lib.hid ((hx'.below ((Below.refl _ w).alloc (Nat.le_refl _) o)).mono (show w.heap.size ≤ (w.alloc o).heap.size by simp))
  go_enter Try.func41, Try.ntmps41
  cases hr : validB S
  all_goals
    have HQ := Lib.hid hr
    clear hr
    go_wp2_with (go_at_call 72; refine (valid_to HQ.out _ (HX _).out).mono ?_; rintro e w' ⟨rfl, hb⟩)
    go_ret
    exact ⟨rfl, ((Below.refl _ _).alloc (Nat.le_refl _) _).trans (hb.mono (by simp))⟩
theorem check_ok {v : Value} {S : Store} {w : World} (h : validB S = true) (hx : StoreAt w.heap.size w v S) :
    Calls Try.prog 41 #[v] w fun e w' => e = .returned (.int .i64 0) ∧ Below w.heap.size w w' := by have := check_any v S w hx; rwa [if_pos h] at this
theorem check_bad {v : Value} {S : Store} {w : World} (h : validB S = false) (hx : StoreAt w.heap.size w v S) :
    Calls Try.prog 41 #[v] w fun e w' => e = .returned (.int .i64 10) ∧ Below w.heap.size w w' := by have := check_any v S w hx; rwa [if_neg (by simp [h])] at this
end Go.Proofs.Ytjflpmhlodgadaa
