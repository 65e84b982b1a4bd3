/-
  Links, the law's reference: the numbers of a list that lie in a range, each once, ascending.
-/
import Derived.Test.YtgjikoebneiamaaLRef1
import Derived.Test.YtgjikoebneiamaaLRows

namespace Go.Proofs.Ytgjikoebneiamaa
open Go.RowKit Go.Shelf

theorem selTo_yes {xs : List Int} {lo : Int} {k : Nat} (h : inB xs (lo + k) = true) : selTo xs lo (k + 1) = selTo xs lo k ++ [lo + k] := by simp only [selTo, if_pos h]
theorem selTo_no {xs : List Int} {lo : Int} {k : Nat} (h : inB xs (lo + k) = false) : selTo xs lo (k + 1) = selTo xs lo k := by simp [selTo, h]
theorem selTo_le (xs : List Int) (lo : Int) : ∀ n, (selTo xs lo n).length ≤ n
  | 0 => by simp [selTo]
  | n + 1 => by
    have := selTo_le xs lo n
    simp only [selTo, List.length_append]
    split <;> simp <;> omega

set_option maxRecDepth 100000 in
set_option maxHeartbeats 4000000 in
theorem Sorted_any (v : Value) (xs : List Int) (lo : Int) (n : Nat) (w : World) (hx : IntsAt w.heap.size w v xs) (hlo : -1 ≤ lo) (hlo2 : lo ≤ 100) (hn : n ≤ 200) :
    Calls Try.prog 81 #[v, .int .i64 lo, .int .i64 (lo + n - 1)] w fun e w' => ∃ q, e = .returned q ∧ OwnInts w' q (selTo xs lo n) ∧ Below w.heap.size w w' := by
  obtain ⟨i0, hi, hz0, hz1, hz2⟩ := info_parts Try_infoInt
  have HX := Lib.hid hx
  obtain ⟨a, cap, b, off, rfl, _⟩ := hx.opened
  clear hx
  go_enter Try.func81, Try.ntmps81
  go_wp2_with fail
  go_loopw [7, 8] (fun o i wr => ∃ k : Nat, k ≤ n ∧ i = .int .i64 (lo + k) ∧ Hid (wr.ownsRow w.heap.size 3 1 o (selTo xs lo k).length ((selTo xs lo k).map (Value.int .i64))) ∧ Hid (Below w.heap.size w wr)) (fun _ i _ => n - (intOf i - lo).toNat)
  case atStart => exact ⟨0, Nat.zero_le _, by simp, World.ownsRow_nil _ _ _ _, Below.refl _ _⟩
  case round =>
    obtain ⟨k, hk, rfl, hown, hbl⟩ := hrel
    obtain ⟨oA, oc, rfl, _⟩ := own_form hown.out
    have hle := selTo_le xs lo k
    have HXR := Lib.hid (HX.out.below hbl.out)
    by_cases hlt : k < n
    · have hd : lo + (k : Int) ≤ lo + n - 1 := by omega
      have hwr : IntKind.i64.wrap (lo + k + 1) = lo + k + 1 := IntWalk.i64_in _ (by omega)
      obtain ⟨r, hr⟩ : ∃ r, inB xs (lo + k) = r := ⟨_, rfl⟩
      have HR := Lib.hid hr
      cases r
      · have HN := Lib.hid (selTo_no hr)
        clear hr
        go_wp2_with (go_at_call 98; refine (rIn_to HR.out HXR.out).mono ?_; rintro e w' ⟨rfl, rfl⟩)
        exact ⟨⟨k + 1, by omega, by go_num, by rw [HN.out]; exact hown.out, hbl.out⟩, by simp [intOf]; omega⟩
      · have HN := Lib.hid (selTo_yes hr)
        clear hr
        go_wp2_with (first | (go_at_call 98; refine (rIn_to HR.out HXR.out).mono ?_; rintro e w' ⟨rfl, rfl⟩) | (at_builtin; refine wpList_append_own _ rfl _ _ 33 rfl w.heap.size 3 i0 (.int .i64 0) 1 8 Try.underlying33 hi hz0 hz1 hz2 rfl (by decide) _ _ _ rfl (hown.out.alloc _) ⟨wr.heap.size, 0, none⟩ 1 1 [.int .i64 (lo + k : Int)] rfl rfl ?c1 ?c2 ?c3 ?c4 ?c5 ?_))
        case c1 => simpa using cell_one_new wr (.int .i64 (lo + k : Int)) 3
        case c2 => simp [Value.oneCell']
        case c3 => unfold maxLen; omega
        case c4 => omega
        case c5 => first | omega | (simp; have := hbl.out.size; omega)
        intro v' w3 hown' hgrow _
        have HO := Lib.hid hown'
        have HF := Lib.hid ((hbl.out.alloc hbl.out.size _).grown hgrow (by have := hbl.out.size; simp; omega) (fun j e => (hown.out.lt j e).1))
        clear hown' hgrow
        go_wp2
        exact ⟨⟨k + 1, by omega, by go_num, by rw [HN.out, List.map_append, List.length_append]; exact HO.out, HF.out⟩, by simp [intOf]; omega⟩
    · obtain rfl : n = k := by omega
      have hd : ¬ lo + (n : Int) ≤ lo + n - 1 := by omega
      go_wp2
      go_ret
      exact ⟨_, rfl, own_grow0 (W := wr) hown.out (Nat.zero_le _), hbl.out⟩

end Go.Proofs.Ytgjikoebneiamaa
