/-
  Walks: small functions.
-/
import Derived.Test.YtjflpmhlodgadaaPlain
import Derived.Deep.QuietTactic
import Derived.BigQuiet
import Derived.Handy
namespace Go.Proofs.Ytjflpmhlodgadaa
open Go.RowKit

theorem ret_bool {a b : Bool} (h : a = b) : Ending.returned (.bool a) = .returned (.bool b) := by rw [h]
theorem ret_int {k : IntKind} {a b : Int} (h : a = b) : Ending.returned (.int k a) = .returned (.int k b) := by rw [h]

set_option maxHeartbeats 400000 in
theorem within_any (n lo hi : Int) (w : World) :
    Calls Try.prog 66 #[.int .i64 n, .int .i64 lo, .int .i64 hi] w fun e w' => e = .returned (.bool (wB n lo hi)) ∧ w = w' := by
  cases h : wB n lo hi
  · by_cases h0 : lo ≤ n
    · have h1 : ¬ n ≤ hi := by rcases wB_false.1 h with h1 | h1 <;> omega
      clear h
      go_enter Try.func66, Try.ntmps66
      go_wp2
      go_ret
      exact ⟨ret_bool (by first | (simp; done) | (simp; omega)), rfl⟩
    · clear h
      go_enter Try.func66, Try.ntmps66
      go_wp2
      go_ret
      exact ⟨rfl, rfl⟩
  · obtain ⟨h1, h2⟩ := wB_iff.1 h
    clear h
    go_enter Try.func66, Try.ntmps66
    go_wp2
    go_ret
    exact ⟨ret_bool (by first | (simp; done) | (simp; omega)), rfl⟩
theorem within_to {n lo hi : Int} {b : Bool} (h : wB n lo hi = b) (w : World) :
    Calls Try.prog 66 #[.int .i64 n, .int .i64 lo, .int .i64 hi] w fun e w' => e = .returned (.bool b) ∧ w = w' := h ▸ within_any n lo hi w

theorem heatOk_no {xs : List Int} {k : Nat} (hk : k < xs.length) (h : nth xs k ≤ prevH xs k ∨ 9 < nth xs k) : heatsOk xs = false :=
  allTo_false hk (by simp [heatOk]; omega)

set_option maxHeartbeats 400000 in
theorem heats_any (v : Value) (xs : List Int) (w : World) {B : Nat} (hx : IntsAt B w v xs) :
    Calls Try.prog 81 #[v] w fun e w' => e = .returned (.bool (heatsOk xs)) ∧ w = w' := by
  obtain ⟨a, cap, b, off, rfl, hm, HA, HC, HW⟩ := hx.opened
  clear hx
  go_enter Try.func81, Try.ntmps81
  go_wp2
  go_loop [3, 8] (fun p i => ∃ k : Nat, k ≤ xs.length ∧ i = .int .i64 k ∧ p = .int .i64 (prevH xs k) ∧ Hid (allTo (heatOk xs) k = true)) (fun _ i => xs.length - (intOf i).toNat)
  case atStart => exact ⟨0, Nat.zero_le _, rfl, rfl, rfl⟩
  case round =>
    obtain ⟨k, hk, rfl, rfl, hall⟩ := hrel
    by_cases hlt : k < xs.length
    · obtain ⟨rfl, hb⟩ := HA.out (by omega)
      have hcell := HC.out k hlt
      go_wp2
      all_goals first
        | (go_ret; exact ⟨ret_bool (heatOk_no hlt (by omega)).symm, rfl⟩)
        | exact ⟨⟨k + 1, by omega, by go_num, rfl, by show allTo _ (k + 1) = true; simp only [allTo, hall.out, heatOk, Bool.true_and]; simp; omega⟩, by simp [intOf]; omega⟩
    · go_wp2
      go_ret
      exact ⟨ret_bool (by rw [heatsOk, show xs.length = k by omega, hall.out]), rfl⟩
theorem heats_to {v : Value} {xs : List Int} {w : World} {B : Nat} {b : Bool} (h : heatsOk xs = b) (hx : IntsAt B w v xs) :
    Calls Try.prog 81 #[v] w fun e w' => e = .returned (.bool b) ∧ w = w' := h ▸ heats_any v xs w hx

set_option maxHeartbeats 400000 in
theorem valid_any (v : Value) (S : Store) (w : World) (hx : StoreAt w.heap.size w v S) :
    Calls Try.prog 72 #[v] w fun e w' => e = .returned (.bool (validB S)) ∧ Below w.heap.size w w' := by
  obtain ⟨a, cap, b, off, a2, cap2, b2, off2, rfl, hm, hm2, HA, HC, HA2, HC2⟩ := hx.opened
  clear hx
  go_enter Try.func72, Try.ntmps72
  by_cases hn1 : S.bars.length ≤ 6
  case neg =>
    go_wp2
    go_ret
    exact ⟨ret_bool (by simp [validB, hn1]), by go_grown⟩
  by_cases hn2 : S.pieces.length ≤ 8
  case neg =>
    go_wp2
    go_ret
    exact ⟨ret_bool (by simp [validB, hn2]), by go_grown⟩
  go_wp2
  go_loopw [20] (fun i wr => ∃ k : Nat, k ≤ S.bars.length ∧ i = .int .i64 k ∧ Below (w.heap.size + 1) (w.alloc _) wr ∧ Hid (allTo (fun i => barOk (bnth S.bars i)) k = true)) (fun i _ => S.bars.length - (intOf i).toNat)
  case atStart => exact ⟨0, Nat.zero_le _, rfl, Below.refl _ _, rfl⟩
  case round =>
    obtain ⟨k, hk, rfl, hbl, hall⟩ := hrel
    have hw := boxed hbl
    have hsz : w.heap.size + 1 ≤ wr.heap.size := by have := hbl.size; simpa using this
    obtain ⟨c0, c1, c2, c3⟩ := box4 hbl
    by_cases hlt : k < S.bars.length
    · obtain ⟨rfl, hb⟩ := HA.out (by omega)
      have d0 := (hw.cell (p := ⟨b, off + k * 2, none⟩) hb).trans (HC.out k hlt).1
      have d1 := (hw.cell (p := ⟨b, off + k * 2 + 1, none⟩) hb).trans (HC.out k hlt).2
      have hno : barOk (bnth S.bars k) = false → validB S = false := fun h => by rw [validB, allTo_false hlt h]; simp
      have hno := Lib.hid hno
      cases h1 : wB (bnth S.bars k).heat 0 9
      case false =>
        go_wp2_with (go_at_call 66; refine (within_to (by with_reducible assumption) _).mono ?_; rintro e w' ⟨rfl, rfl⟩)
        go_ret
        exact ⟨ret_bool (by rw [hno.out (by simp [barOk, h1])]), by go_grown⟩
      cases h2 : wB (bnth S.bars k).long 1 999
      all_goals go_wp2_with (go_at_call 66; refine (within_to (by with_reducible assumption) _).mono ?_; rintro e w' ⟨rfl, rfl⟩)
      · go_ret
        exact ⟨ret_bool (by rw [hno.out (by simp [barOk, h2])]), by go_grown⟩
      · exact ⟨⟨k + 1, by omega, by go_num, by go_grown, allTo_step hall (by simp [barOk, h1, h2])⟩, by simp [intOf]; omega⟩
    · have hall2 := Lib.hid (show allTo (fun i => barOk (bnth S.bars i)) S.bars.length = true from by rw [show S.bars.length = k by omega, hall.out])
      clear hall
      go_wp2
      go_loopw [38] (fun i w2 => ∃ k : Nat, k ≤ S.pieces.length ∧ i = .int .i64 k ∧ Below (w.heap.size + 1) (w.alloc _) w2 ∧ Hid (allTo (fun i => pieceOk (pnth S.pieces i)) k = true)) (fun i _ => S.pieces.length - (intOf i).toNat)
      case atStart => exact ⟨0, Nat.zero_le _, rfl, hbl, rfl⟩
      case round =>
        clear hw hsz c0 c1 c2 c3 hbl
        obtain ⟨k2, hk2, rfl, hbl, hall⟩ := hrel
        have hw := boxed hbl
        have hsz : w.heap.size + 1 ≤ wr.heap.size := by have := hbl.size; simpa using this
        obtain ⟨c0, c1, c2, c3⟩ := box4 hbl
        by_cases hlt : k2 < S.pieces.length
        · obtain ⟨rfl, hb⟩ := HA2.out (by omega)
          have d0 := (hw.cell (p := ⟨b2, off2 + k2 * 2, none⟩) hb).trans (HC2.out k2 hlt).1
          obtain ⟨hv, d1, hI⟩ := (HC2.out k2 hlt).2
          have d1 := (hw.cell (p := ⟨b2, off2 + k2 * 2 + 1, none⟩) hb).trans d1
          have hI := hI.below hw
          obtain ⟨a3, cap3, b3, off3, hveq, _⟩ := hI.opened
          subst hveq
          have hno : pieceOk (pnth S.pieces k2) = false → validB S = false := fun h => by rw [validB, allTo_false (n := S.pieces.length) hlt h]; simp
          have hno := Lib.hid hno
          cases h1 : wB (pnth S.pieces k2).long 1 999
          case false =>
            go_wp2_with (go_at_call 66; refine (within_to (by with_reducible assumption) _).mono ?_; rintro e w' ⟨rfl, rfl⟩)
            go_ret
            exact ⟨ret_bool (by rw [hno.out (by simp [pieceOk, h1])]), by go_grown⟩
          cases h2 : heatsOk (pnth S.pieces k2).heats
          all_goals go_wp2_with (first | (go_at_call 66; refine (within_to (by with_reducible assumption) _).mono ?_; rintro e w' ⟨rfl, rfl⟩) | (go_at_call 81; refine (heats_to (by with_reducible assumption) (hI.below (by go_grown))).mono ?_; rintro e w' ⟨rfl, rfl⟩))
          · go_ret
            exact ⟨ret_bool (by rw [hno.out (by simp [pieceOk, h2])]), by go_grown⟩
          · exact ⟨⟨k2 + 1, by omega, by go_num, by go_grown, allTo_step hall (by simp [pieceOk, h1, h2])⟩, by simp [intOf]; omega⟩
        · have hall3 := Lib.hid (show allTo (fun i => pieceOk (pnth S.pieces i)) S.pieces.length = true from by rw [show S.pieces.length = k2 by omega, hall.out])
          clear hall
          cases h1 : wB S.kerf 0 20
          case false =>
            go_wp2_with (go_at_call 66; refine (within_to (by with_reducible assumption) _).mono ?_; rintro e w' ⟨rfl, rfl⟩)
            go_ret
            exact ⟨ret_bool (by simp [validB, h1]), by go_grown⟩
          cases h2 : wB S.wrong 0 8
          all_goals go_wp2_with (go_at_call 66; refine (within_to (by with_reducible assumption) _).mono ?_; rintro e w' ⟨rfl, rfl⟩)
          all_goals go_ret
          · exact ⟨ret_bool (by simp [validB, h2]), by go_grown⟩
          · exact ⟨ret_bool (by simp [validB, h1, h2, hall2.out, hall3.out, hn1, hn2]), by go_grown⟩
theorem valid_to {v : Value} {S : Store} {r : Bool} (h : validB S = r) (w : World) (hx : StoreAt w.heap.size w v S) :
    Calls Try.prog 72 #[v] w fun e w' => e = .returned (.bool r) ∧ Below w.heap.size w w' := h ▸ valid_any v S w hx
end Go.Proofs.Ytjflpmhlodgadaa
