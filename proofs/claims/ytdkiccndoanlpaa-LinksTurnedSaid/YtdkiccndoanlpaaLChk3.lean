/-
  Links, the law's reference: which sights and chains are valid.
-/
import Derived.Test.YtdkiccndoanlpaaLChk2
import Derived.Test.YtdkiccndoanlpaaLW2

namespace Go.Proofs.Ytdkiccndoanlpaa
open Go.RowKit Go.Shelf

set_option maxRecDepth 100000 in
set_option maxHeartbeats 4000000 in
theorem rIsSight_any (s : Sight) (ds : List Deed) (v : Value) (w : World) (hs : SI64 s) (hn12 : ds.length ≤ 12) (hv : IntsAt w.heap.size w v (lensL ds ds.length)) :
    Calls Try.prog 69 #[sV s, v] w fun e w' => e = .returned (.bool (sightAll ds s)) ∧ Below w.heap.size w w' := by
  obtain ⟨a, cap, b, off, rfl, hm, HA, HC, HW⟩ := hv.opened
  clear hv
  rw [lensL_len] at HA HC ⊢
  obtain ⟨rfl, hb⟩ := HA.out (by omega)
  obtain ⟨i0, i1, i2, i3, i4⟩ := hs
  unfold I64 at i0 i1 i2 i3 i4
  have hw1 : IntKind.i64.wrap (((ds.length : Int) + 1) - 1) = ds.length := by rw [IntWalk.i64_in _ (by omega)]; omega
  have QW := Lib.hid (fun (W : World) (d : Nat) (n lo hi : Int) (r : Bool) (h : wB n lo hi = r) => Calls.quiet_of_same (n := d) (w := W) ((rWithin_to h (W.drewN d)).mono (R' := fun e w' => e = .returned (.bool r) ∧ w' = W.drewN d) (fun _ _ h => ⟨h.1, h.2.symm⟩)))
  have hu : sightAll ds s = (wB s.after 0 ds.length && (wB s.at_ 0 (lenTo ds s.after.toNat - 1) && wB s.from_ 0 1 && wB s.bar (-1) 99 && wB s.smith (-1) 99)) := rfl
  have HU := Lib.hid hu
  clear hu
  go_enter Try.func69, Try.ntmps69
  obtain ⟨W, hW⟩ : ∃ W, W = w.alloc (.cells #[.int .i64 s.after, .int .i64 s.at_, .int .i64 s.from_, .int .i64 s.bar, .int .i64 s.smith] 60) := ⟨_, rfl⟩
  have hf : Five W w.heap.size 0 _ _ _ _ _ := hW ▸ five_new
  have hbW : Below w.heap.size w W := hW ▸ (Below.refl _ _).alloc (Nat.le_refl _) _
  have HWQ := Lib.hid hW
  have HBW := Lib.hid hbW
  obtain ⟨f0, f1, f2, f3, f4⟩ := hf
  have hC : ∀ q, q ≤ ds.length → b < w.heap.size → W.cell? ⟨b, off + q, none⟩ = some (.int .i64 (lenTo ds q)) := fun q hq hbw => by
    rw [hbW.cell (p := ⟨b, off + q, none⟩) hbw, HC.out q (by omega), lensL_nth ds hq]
  have HCW := Lib.hid hC
  clear hW hbW hC
  cases ha : wB s.after 0 ds.length
  case false =>
    go_wp2
    rw [← HWQ.out]
    go_quiet ((go_at_call 67; exact QW.out _ _ _ _ _ _ (by with_reducible assumption)))
    go_wp2
    go_ret
    exact ⟨ret_bool (by rw [HU.out, ha]; rfl), drewN_below HBW.out _⟩
  obtain ⟨haf0, haf1⟩ := wB_iff.1 ha
  obtain ⟨q, hq⟩ : ∃ q : Nat, s.after = q := ⟨s.after.toNat, by omega⟩
  have hqle : q ≤ ds.length := by omega
  have x0 := HCW.out q hqle hb
  have hle := lenTo_le ds q
  have hu2 : sightAll ds s = (wB s.at_ 0 (lenTo ds q - 1) && wB s.from_ 0 1 && wB s.bar (-1) 99 && wB s.smith (-1) 99) := by rw [HU.out, ha, hq]; simp
  have HU2 := Lib.hid hu2
  clear HU hu2 HCW haf0 haf1 HC HW HA
  unfold sV
  rw [hq] at ha f0 HWQ ⊢
  clear hq
  generalize lenTo ds q = y at x0 hle HU2
  cases hf : wB s.from_ 0 1
  case false =>
    go_wp2
    rw [← HWQ.out]
    go_quiet ((go_at_call 67; exact QW.out _ _ _ _ _ _ (by with_reducible assumption)))
    go_wp2
    go_ret
    exact ⟨ret_bool (by rw [HU2.out, hf]; simp), drewN_below HBW.out _⟩
  cases hat : wB s.at_ 0 (y - 1)
  case false =>
    go_wp2
    rw [← HWQ.out]
    go_quiet ((go_at_call 67; exact QW.out _ _ _ _ _ _ (by with_reducible assumption)))
    go_wp2
    go_ret
    exact ⟨ret_bool (by rw [HU2.out, hat]; simp), drewN_below HBW.out _⟩
  cases hb : wB s.bar (-1) 99
  case false =>
    go_wp2
    rw [← HWQ.out]
    go_quiet ((go_at_call 67; exact QW.out _ _ _ _ _ _ (by with_reducible assumption)))
    go_wp2
    go_ret
    exact ⟨ret_bool (by rw [HU2.out, hb]; simp), drewN_below HBW.out _⟩
  cases hs : wB s.smith (-1) 99
  all_goals
    go_wp2
    rw [← HWQ.out]
    go_quiet ((go_at_call 67; exact QW.out _ _ _ _ _ _ (by with_reducible assumption)))
    go_wp2
    go_ret
    exact ⟨ret_bool (by rw [HU2.out, hat, hf, hb, hs]; simp), drewN_below HBW.out _⟩

end Go.Proofs.Ytdkiccndoanlpaa
