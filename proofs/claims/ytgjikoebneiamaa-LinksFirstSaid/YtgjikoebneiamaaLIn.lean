/-
  Links, the law's reference: numbers in a list, the deeds that weld, which numbers are links'.
-/
import Derived.Test.YtgjikoebneiamaaLFar

namespace Go.Proofs.Ytgjikoebneiamaa
open Go.RowKit Go.Shelf

theorem rIn_any (v : Value) (xs : List Int) (x : Int) (w : World) {B : Nat} (hx : IntsAt B w v xs) :
    Calls Try.prog 98 #[v, .int .i64 x] w fun e w' => e = .returned (.bool (inB xs x)) ∧ w = w' := by
  obtain ⟨a, cap, b, off, rfl, hm, HA, HC, HW⟩ := hx.opened
  clear hx
  go_enter Try.func98, Try.ntmps98
  go_wp2
  go_loop [5] (fun i => ∃ k : Nat, k ≤ xs.length ∧ i = .int .i64 k ∧ Hid (∀ i, i < k → x ≠ nth xs i)) (fun i => xs.length - (intOf i).toNat)
  case atStart => exact ⟨0, Nat.zero_le _, rfl, fun i hi => by omega⟩
  case round =>
    obtain ⟨k, hk, rfl, hall⟩ := hrel
    by_cases hlt : k < xs.length
    · obtain ⟨rfl, hb⟩ := HA.out (by omega)
      have hcell := HC.out k hlt
      by_cases he : x = nth xs k
      · have hn : (nth xs k == x) = true := by simp [he]
        have HE := Lib.hid he
        clear he
        go_wp2
        go_ret
        exact ⟨ret_bool (inB_yes hlt HE.out).symm, rfl⟩
      · have hn : (nth xs k == x) = false := by simpa using (fun h => he h.symm)
        have HE := Lib.hid he
        clear he
        go_wp2
        exact ⟨⟨k + 1, by omega, by go_num, fun i hi => by by_cases h : i = k; exact h ▸ HE.out; exact hall.out i (by omega)⟩, by simp [intOf]; omega⟩
    · go_wp2
      go_ret
      exact ⟨ret_bool (by rw [inB_no (allTo_true (fun i hi => by simpa using hall.out i (by omega)))]), rfl⟩
theorem rIn_to {v : Value} {xs : List Int} {x : Int} {w : World} {B : Nat} {r : Bool} (h : inB xs x = r) (hx : IntsAt B w v xs) :
    Calls Try.prog 98 #[v, .int .i64 x] w fun e w' => e = .returned (.bool r) ∧ w = w' := h ▸ rIn_any v xs x w hx
theorem in_any (v : Value) (xs : List Int) (x : Int) (w : World) {B : Nat} (hx : IntsAt B w v xs) :
    Calls Try.prog 50 #[v, .int .i64 x] w fun e w' => e = .returned (.bool (inB xs x)) ∧ w = w' := by
  have hx' := hx
  obtain ⟨a, cap, b, off, rfl, hm, HA, HC, HW⟩ := hx.opened
  have HX := Lib.hid hx'
  clear hx hx' HA HC HW
  go_enter Try.func50, Try.ntmps50
  go_wp2_with (go_at_call 98; refine (rIn_any _ _ _ _ HX.out).mono ?_; rintro e w' ⟨rfl, rfl⟩)
  go_ret
  exact ⟨rfl, rfl⟩
theorem in_to {v : Value} {xs : List Int} {x : Int} {w : World} {B : Nat} {r : Bool} (h : inB xs x = r) (hx : IntsAt B w v xs) :
    Calls Try.prog 50 #[v, .int .i64 x] w fun e w' => e = .returned (.bool r) ∧ w = w' := h ▸ in_any v xs x w hx

/-- The numbers of the first k deeds that weld. -/
def weldIx (ds : List Deed) : Nat → List Int
  | 0 => []
  | k + 1 => weldIx ds k ++ (if (dnth ds k).what = 1 then [(k : Int)] else [])
theorem weldIx_len (ds : List Deed) : ∀ k, (weldIx ds k).length = weldsTo ds k
  | 0 => rfl
  | k + 1 => by simp only [weldIx, weldsTo, List.length_append, weldIx_len ds k]; split <;> rfl
theorem weldIx_le (ds : List Deed) : ∀ k, ∀ x ∈ weldIx ds k, 0 ≤ x ∧ x < k
  | 0, x, h => by simp [weldIx] at h
  | k + 1, x, h => by
    simp only [weldIx, List.mem_append] at h
    rcases h with h | h
    · have := weldIx_le ds k x h; push_cast; omega
    · split at h <;> simp at h
      subst h; push_cast; omega
theorem weldIx_weld (ds : List Deed) : ∀ k, k ≤ ds.length → ∀ j, j < weldsTo ds k → dnth ds (nth (weldIx ds k) j).toNat = dnth (weldL ds) j
  | 0, _, j, h => by simp [weldsTo] at h
  | k + 1, hk, j, h => by
    have ih := weldIx_weld ds k (by omega)
    simp only [weldIx]
    by_cases hw : (dnth ds k).what = 1
    · simp only [weldsTo, if_pos hw] at h
      rw [if_pos hw]
      by_cases e : j = weldsTo ds k
      · subst e
        rw [← weldIx_len ds k]
        have : nth (weldIx ds k ++ [(k : Int)]) (weldIx ds k).length = k := by simp [nth]
        rw [this, weldIx_len, weld_nth (by omega) hw]; rfl
      · have : nth (weldIx ds k ++ [(k : Int)]) j = nth (weldIx ds k) j := by
          have hl : j < (weldIx ds k).length := by rw [weldIx_len]; omega
          simp [nth, List.getD_eq_getElem?_getD, List.getElem?_append_left hl]
        rw [this]
        exact ih j (by omega)
    · simp only [weldsTo, if_neg hw] at h
      rw [if_neg hw, List.append_nil]
      exact ih j (by omega)

set_option maxRecDepth 100000 in
set_option maxHeartbeats 2000000 in
theorem Welds_any (v : Value) (C : Chain) (w : World) (hn : C.deeds.length ≤ 40) (hx : ChainAt w.heap.size w v C) :
    Calls Try.prog 54 #[v] w fun e w' => ∃ A c, e = .returned (.slice A (weldsTo C.deeds C.deeds.length) c) ∧ w'.ownsRow w.heap.size 3 1 (.slice A (weldsTo C.deeds C.deeds.length) c) (weldsTo C.deeds C.deeds.length) ((weldIx C.deeds C.deeds.length).map (Value.int .i64)) ∧ Below w.heap.size w w' := by
  have hx' := hx
  obtain ⟨i0, hi, hz0, hz1, hz2⟩ := info_parts Try_infoInt
  obtain ⟨a, cap, b, off, a2, cap2, b2, off2, rfl, hm, hm2, hcap, hcapm, HA, HC, HA2, HC2, HI, HI2⟩ := hx.opened
  have HS0 := Lib.hid (LStat.first hx')
  obtain ⟨c0, c1, c2⟩ := HS0.out.cells
  clear hx hx' HA2 HC2 HI HI2
  go_enter Try.func54, Try.ntmps54
  go_wp2
  go_loopw [3, 4] (fun o i wr => ∃ k : Nat, k ≤ C.deeds.length ∧ i = .int .i64 k ∧ Hid (wr.ownsRow (w.heap.size + 1) 3 1 o (weldsTo C.deeds k) ((weldIx C.deeds k).map (Value.int .i64))) ∧ Hid (Below (w.heap.size + 1) (w.alloc (.cells #[.slice a C.deeds.length cap, .slice a2 C.sights.length cap2, .int .i64 C.wrong] 25)) wr)) (fun _ i _ => C.deeds.length - (intOf i).toNat)
  case atStart => exact ⟨0, Nat.zero_le _, rfl, World.ownsRow_nil _ _ _ _, Below.refl _ _⟩
  case round =>
    obtain ⟨k, hk, rfl, hown, hbl⟩ := hrel
    obtain ⟨oA, oc, rfl, _⟩ := own_form hown.out
    clear c0 c1 c2
    obtain ⟨c0, c1, c2⟩ := box3 hbl.out
    have hszr := boxed_size hbl.out
    have hle := weldsTo_le C.deeds k
    by_cases hlt : k < C.deeds.length
    · obtain ⟨rfl, hb⟩ := HA.out (by omega)
      obtain ⟨d0, d1, d2, d3, d4⟩ := (HC.out k hlt).below (boxed hbl.out) hb
      by_cases h1 : (dnth C.deeds k).what = 1
      · have HN := Lib.hid (show weldsTo C.deeds (k + 1) = weldsTo C.deeds k + 1 ∧ weldIx C.deeds (k + 1) = weldIx C.deeds k ++ [(k : Int)] from ⟨by simp [weldsTo, h1], by simp [weldIx, h1]⟩)
        go_wp2_with (at_builtin; refine wpList_append_own _ rfl _ _ 33 rfl (w.heap.size + 1) 3 i0 (.int .i64 0) 1 8 Try.underlying33 hi hz0 hz1 hz2 rfl (by decide) _ _ _ rfl (hown.out.alloc _) ⟨wr.heap.size, 0, none⟩ 1 1 [.int .i64 (k : Int)] rfl rfl ?c1 ?c2 ?c3 ?c4 ?c5 ?_)
        case c2 => simp [Value.oneCell']
        case c3 => unfold maxLen; omega
        case c4 => omega
        case c5 => first | omega | (simp; omega)
        intro v' w3 hown' hgrow _
        have HO := Lib.hid hown'
        have HF := Lib.hid ((hbl.out.alloc hszr _).grown hgrow (by simp; omega) (fun j e => (hown.out.lt j e).1))
        clear hown' hgrow
        go_wp2
        exact ⟨⟨k + 1, by omega, by go_num, by rw [HN.out.1, HN.out.2, List.map_append]; exact HO.out, HF.out⟩, by simp [intOf]; omega⟩
      · have HN := Lib.hid (show weldsTo C.deeds (k + 1) = weldsTo C.deeds k ∧ weldIx C.deeds (k + 1) = weldIx C.deeds k from ⟨by simp [weldsTo, h1], by simp [weldIx, h1]⟩)
        go_wp2
        exact ⟨⟨k + 1, by omega, by go_num, by rw [HN.out.1, HN.out.2]; exact hown.out, hbl.out⟩, by simp [intOf]; omega⟩
    · obtain rfl : C.deeds.length = k := by omega
      go_wp2
      go_ret
      exact ⟨oA, oc, rfl, ⟨hown.out.1, by
        rcases hown.out.2 with h | ⟨g, cap, cur, h1, h2, h3⟩
        · exact .inl h
        · exact .inr ⟨g, cap, cur, h1, by omega, h3⟩⟩, boxed hbl.out⟩

set_option maxHeartbeats 800000 in
theorem IsLink_any (v : Value) (C : Chain) (link : Int) (w : World) (hn : C.deeds.length ≤ 40) (hx : ChainAt w.heap.size w v C) :
    Calls Try.prog 46 #[v, .int .i64 link] w fun e w' => e = .returned (.bool (wB link 0 ((weldsTo C.deeds C.deeds.length : Int) - 1))) ∧ Below w.heap.size w w' := by
  have hx' := hx
  obtain ⟨a, cap, b, off, a2, cap2, b2, off2, rfl, hm, hm2, hcap, hcapm, HA, HC, HA2, HC2, HI, HI2⟩ := hx.opened
  have HS0 := Lib.hid (LStat.first hx')
  have hle := weldsTo_le C.deeds C.deeds.length
  clear hx hx' HA2 HC2 HI HI2 HA HC
  go_enter Try.func46, Try.ntmps46
  go_wp2_with fail
  refine (Welds_any _ C _ hn HS0.out.st).mono ?_
  rintro e w1 ⟨A, c, rfl, _, hb⟩
  have HB := Lib.hid (HS0.out.next hb).b
  clear hb
  go_wp2_with (go_at_call 67; refine (rWithin_to rfl _).mono ?_; rintro e w' ⟨rfl, rfl⟩)
  go_ret
  exact ⟨rfl, HB.out⟩
theorem IsLink_to {v : Value} {C : Chain} {link : Int} {w : World} {r : Bool} (h : wB link 0 ((weldsTo C.deeds C.deeds.length : Int) - 1) = r) (hn : C.deeds.length ≤ 40) (hx : ChainAt w.heap.size w v C) :
    Calls Try.prog 46 #[v, .int .i64 link] w fun e w' => e = .returned (.bool r) ∧ Below w.heap.size w w' := h ▸ IsLink_any v C link w hn hx

end Go.Proofs.Ytgjikoebneiamaa
